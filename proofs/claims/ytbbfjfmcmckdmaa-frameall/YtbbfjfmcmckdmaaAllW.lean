/- FrameAll, the walk: which frames come of any pieces, and when it is spoilt. -/
import Derived.Test.YtbbfjfmcmckdmaaAll
namespace Go.Proofs.Ytbbfjfmcmckdmaa
open Go.RowKit

theorem waits_at2 {x : Nat} {p : Option Nat} {zs ys : List UInt8} {w : World} (h : RR w x p zs) (hs : Same zs ys) {L : Nat} (hL : (allS ys).1.length = L) :
    Calls Try.prog 17 #[.pointer (some ⟨x, 0, none⟩)] w fun e w' => e = .returned (.int .i64 (L : Int)) ∧ Below w.heap.size w w' := by
  have := rwaits_any x p zs w h
  rw [hs.1, hL] at this
  exact this

set_option maxRecDepth 100000 in
set_option maxHeartbeats 4000000 in
theorem all_walk (ta : Option Addr) (tn tc : Nat) (ts : List (List UInt8)) (w : World) (hT : Parts w w.heap.size ta tn tc ts) :
    Calls Try.prog 3 #[.slice ta tn tc] w fun e w' => e = .returned (.bool true) ∧ Below w.heap.size w w' := by
  have htl := hT.le
  have htm := hT.max
  unfold maxLen at htm
  by_cases h30 : 30 < tn
  · go_enter Try.func3, Try.ntmps3
    go_wp2_with (go_at_call 8; refine (begun_any _).mono ?_; rintro e w0 ⟨rfl, hb0⟩)
    go_ret
    exact ⟨rfl, hb0⟩
  · go_enter Try.func3, Try.ntmps3
    go_wp2_with (go_at_call 8; refine (begun_any _).mono ?_; rintro e w0 ⟨rfl, hb0⟩)
    have hT0 := (hT.low hb0.block).mono hb0.size
    refine (lsum_any ta tn tc ts w0 hT0 (by omega) 3000 (by omega)).mono ?_
    rintro e w9 ⟨⟨z, rfl, hz, hzs⟩, rfl⟩
    by_cases h3 : 3000 < z
    · go_wp2_with fail
      go_ret
      exact ⟨rfl, hb0⟩
    · have hfl := hzs (by omega)
      clear hzs hz hT0
      have hs0 := hb0.size
      go_wp2_with fail
      refine (new_any w0).mono ?_
      rintro e w1 ⟨g, rfl, hg, hF, hb1⟩
      have hs1 := hb1.size
      have hB1 : Below w.heap.size w (w1.alloc (.cells #[.slice none 0 0, .int .i64 0, .int .i64 0] 31)) := (hb0.trans (hb1.mono hs0)).alloc (by omega) _
      have hR1 : RR (w1.alloc (.cells #[.slice none 0 0, .int .i64 0, .int .i64 0] 31)) w1.heap.size none [] := ⟨by simp, by simp, none, 0, 0, by rw [rd_nil, allS_nil]; exact Blk.new w1 31 _, .inl ⟨rfl, rfl, rfl, rfl, rfl⟩⟩
      have hF1 : FR (w1.alloc (.cells #[.slice none 0 0, .int .i64 0, .int .i64 0] 31)) g none ([], 0) := hF.carry (Below.heap_alloc w1 _ g hF.lt) (fun b hb => by cases hb)
      have hgl := hF.lt
      have hsz1 := hR1.lt
      go_wp2_with fail
      generalize w1.alloc (.cells #[.slice none 0 0, .int .i64 0, .int .i64 0] 31) = w2 at hB1 hR1 hF1 hsz1 ⊢
      have hS0 : AllS w w2 w2.heap.size g w1.heap.size none none [] [] := ⟨by rw [allS_nil]; exact hF1, hR1, ⟨rfl, fun _ => rfl⟩, (fun b hb => by cases hb), (fun b hb => by cases hb), (fun b hb => by cases hb), hB1, Nat.le_refl _⟩
      have hwg : w.heap.size ≤ g := by omega
      have hwx : w.heap.size ≤ w1.heap.size := by omega
      have hgx : g ≠ w1.heap.size := by omega
      have hgB : g < w2.heap.size := by omega
      generalize w2.heap.size = B at hS0 hgB hsz1
      generalize w1.heap.size = x at hS0 hwx hgx hsz1 ⊢
      clear hF hF1 hR1 hB1 hb0 hb1 hs0 hs1 hg hgl
      go_loopw [5] (fun s5 wr => ∃ (k : Nat) (q p : Option Nat) (zs : List UInt8), k ≤ tn ∧ s5 = .int .i64 (k : Int) ∧ AllS w wr B g x q p (ts.take k).flatten zs) (fun s5 _ => tn - (intOf s5).toNat)
      case atStart => exact ⟨0, none, none, [], by omega, rfl, hS0⟩
      case round =>
        clear hS0
        obtain ⟨k, q, p, zs, hk, rfl, hS⟩ := hrel
        obtain ⟨wo, hwo⟩ : ∃ wo, wo = wr := ⟨_, rfl⟩
        subst hwo
        by_cases hlt : k < tn
        · obtain ⟨l, hl⟩ : ∃ l, ts[k]? = some l := ⟨_, List.getElem?_eq_getElem (by rw [hT.len]; exact hlt)⟩
          obtain ⟨b, off, v, rfl, hbg, hc0, pa, pm, pc, rfl, hr0, hlow0⟩ := hT.cell k l hl
          have HC : Hid (∀ W, Below w.heap.size w W → W.cell? ⟨b, off + k, none⟩ = some (.slice pa pm pc)) := fun W hW => (World.cell?_of_block (a := ⟨b, off + k, none⟩) (hW.block b hbg)).trans hc0
          have HR : Hid (∀ W, Below w.heap.size w W → Rd W pa pm pc l) := fun W hW => hr0.below hW (Nat.le_refl _)
          have HHL : Hid _ := hr0.len
          have HFT : Hid _ := flat_take ts k l hl
          have hys := flat_le ts (k + 1)
          rw [HFT.out, List.length_append, HHL.out] at hys
          have hal := allS_len (ts.take k).flatten
          obtain ⟨p1, p2, p3⟩ := allS_put (ts.take k).flatten l
          rw [← HFT.out] at p1 p2 p3
          obtain ⟨E, HE⟩ : ∃ E, Hid (E = (allS (ts.take (k + 1)).flatten).2) := ⟨_, rfl⟩
          obtain ⟨L, HL⟩ : ∃ L, Hid ((allS (ts.take (k + 1)).flatten).1.length = L) := ⟨_, rfl⟩
          rw [← HE.out] at p3
          have HP1 : Hid _ := p1
          have HP3 : Hid _ := p3
          have hcnt := rd_count (ts.take (k + 1)).flatten
          rw [p2, List.length_append, HFT.out, List.length_append, HHL.out] at hcnt
          have hpm : pm ≤ 3000 := by omega
          clear p1 p2 p3 hl hr0 hc0 hlow0
          have hc1 := HC.out _ hS.bel
          go_wp2_with fail
          refine (twin_any pa pm pc l wo (HR.out _ hS.bel) (by omega)).mono ?_
          rintro e w1' ⟨rfl, hRow, hb1⟩
          have ht1 := hRow.lt
          have hO1 : Own 5 0 w1' wo.heap.size pm (pm + 3) l := hRow.own 0 (Nat.zero_le _) (by simp [twinRow, HHL.out]) HHL.out (by omega) (by unfold maxLen; omega) (by simp [twinRow, HHL.out])
          have hF1 : FR w1' g q (allS (ts.take k).flatten) := hS.fr.carry (hb1.block g hS.fr.lt) (fun b _ hl => hb1.block b hl)
          have hB1 : Below w.heap.size w w1' := hS.bel.trans (hb1.mono hS.bel.size)
          clear hc1
          go_wp2_with fail
          refine (put_at hF1 hO1.rd (by omega) rfl HP3.out HP1.out).mono ?_
          rintro e w2' ⟨la, lk, lc, rfl, us, q', hP⟩
          have hsz := hS.size
          have hs2 := hP.keep.size
          have hB2 : Below w.heap.size w w2' := below_keep hB1 hP.keep hB1.size (fun i e => by
            rcases e with e | e
            · omega
            · have := hS.qn i e; omega)
          have hrr2 := hS.beside hgB hsz1 hgx hb1 hP.keep
          have hc2 := HC.out _ hB2
          have hRow2 : RowIs w2' wo.heap.size (twinRow l) := hRow.carry (hP.keep.block _ ht1 (fun e => by
            rcases e with e | e
            · omega
            · have := hS.fr.qlt e; omega))
          clear hF1 hO1 hRow
          go_wp2_with fail
          refine (rput_any x p zs (ts.take k).flatten pa pm pc l w2' hrr2 (HR.out _ hB2) hS.same (by omega)).mono ?_
          rintro e w3' ⟨ma, mk, mc, E', rfl, HE', p', zs', hRP⟩
          obtain rfl : E' = E := by rw [HE'.out, ← HFT.out, ← HE.out]
          rw [← HFT.out] at hRP
          have hs3 := hRP.keep.size
          have hB3 : Below w.heap.size w w3' := below_keep hB2 hRP.keep hB2.size (fun i e => by omega)
          have hAl := hP.own.keep hRP.keep (fun k e => by omega)
          have hFv := hP.fv.keep hRP.keep (fun k e => by omega)
          have hp1 := hAl.parts hFv.pv (Nat.le_refl _)
          have hp2 := hRP.parts
          obtain rfl : mk = lk := by rw [← hp2.len, ← hp1.len]
          have hlk : mk ≤ 3000 := by have := hp1.len; omega
          have hRow3 : RowIs w3' wo.heap.size (twinRow l) := hRow2.carry (hRP.keep.block _ hRow2.lt (by omega))
          have hF3 : FR w3' g q' (allS (ts.take (k + 1)).flatten) := hP.fr.keep hRP.keep hgx (fun b hb e => by
            rcases hP.new b hb with h | h
            · have := hS.qn b h; omega
            · omega)
          have hE0 : ((E' : Int) == (E' : Int)) = true := by simp
          clear hc2 hRow2 hrr2
          go_wp2_with fail
          refine (alike_any _ _ _ _ _ _ _ hp1 hp2 (by omega)).mono ?_
          rintro e w4 ⟨rfl, h4, hb4⟩
          have hB4 : Below w.heap.size w w4 := hB3.trans (hb4.mono hB3.size)
          have hc4 := HC.out _ hB4
          have hRow4 : RowIs w4 wo.heap.size (twinRow l) := hRow3.carry (by rw [h4])
          have hF4 : FR w4 g q' (allS (ts.take (k + 1)).flatten) := hF3.carry (by rw [h4]) (fun _ _ _ => by rw [h4])
          have hr4 : RR w4 x p' zs' := hRP.rr.carry (by rw [h4]) (fun _ _ _ => by rw [h4])
          clear hp1 hp2
          go_wp2_with fail
          refine (kept_any wo.heap.size pm pa pc l w4 hRow4 (HR.out _ hB4) (by omega)).mono ?_
          rintro e w9 ⟨rfl, rfl⟩
          clear hc4
          go_wp2_with fail
          refine (waits_at hF4 HL.out).mono ?_
          rintro e w9 ⟨rfl, rfl⟩
          go_wp2_with fail
          refine (waits_at2 hr4 hRP.same HL.out).mono ?_
          rintro e w5 ⟨rfl, hb5⟩
          have hRow5 : RowIs w5 wo.heap.size (twinRow l) := hRow4.carry (hb5.block _ hRow4.lt)
          have hL0 : ((L : Int) == (L : Int)) = true := by simp
          clear hF4 hr4 hRow4 hF3 hRow3
          go_wp2_with fail
          refine (spoil_any wo.heap.size pm (pm + 3) (twinRow l) w5 hRow5 (by simp [twinRow, HHL.out]) (by unfold maxLen; omega)).mono ?_
          rintro e w6 ⟨rfl, hg6⟩
          have h36 : Keep w3' w6 (fun k => k = wo.heap.size) := ((Keep.of_below hb4 (Nat.le_refl _)).low hb5 (by have := hb4.size; omega)).trans (Keep.of_grown (S := fun k => k = wo.heap.size) hg6 (fun k e => by simp at e; exact e.symm)) (fun _ _ e => e)
          have hA6 := hAl.keep h36 (fun k e => by omega)
          have hF6 := hFv.keep h36 (fun k e => by omega)
          have hSp := hF6.spOk
          clear hRow5 hg6 hb5 hb4 h4 hAl hFv
          go_wp2_with fail
          go_loopw [11] (fun s11 wr => ∃ (j : Nat), j ≤ mk ∧ s11 = .int .i64 (j : Int) ∧ Keep w6 wr (InV us) ∧ SpOk wr us) (fun s11 _ => mk - (intOf s11).toNat)
          case atStart => exact ⟨0, by omega, rfl, Keep.refl _ _, hSp⟩
          case round =>
            clear hSp
            obtain ⟨j, hj, rfl, hK, hSp⟩ := hrel
            by_cases hlt2 : j < mk
            · obtain ⟨gl, rfl, hol⟩ : ∃ gl, la = some ⟨gl, 0, none⟩ ∧ OwnV 28 w1'.heap.size w6 gl mk lc us := by
                rcases hA6 with ⟨_, h0, _, _⟩ | h
                · omega
                · exact h
              have hol2 := hol.carry (hK.block gl hol.lt (fun e => by
                obtain ⟨_, _, _, _, _, ho⟩ := hF6.inV e
                exact ho.ne hol rfl))
              obtain ⟨v, hv⟩ : ∃ v, us[j]? = some v := ⟨_, List.getElem?_eq_getElem (by rw [hol.len]; exact hlt2)⟩
              have hcv := hol2.cell hv
              have hle2 := hol.le
              have hmx2 := hol.max
              unfold maxLen at hmx2
              rcases hSp j v hv with rfl | ⟨h, n2, c2, l2, rfl, hrow, HL2, hm2⟩
              · clear hv
                go_wp2_with fail
                refine (spoil_nil wr).mono ?_
                rintro e w9 ⟨rfl, rfl⟩
                go_wp2_with fail
                exact ⟨⟨j + 1, by omega, by go_num, hK, hSp⟩, by simp [intOf]; omega⟩
              · have hin : InV us h := ⟨j, ⟨h, 0, none⟩, n2, c2, hv, rfl⟩
                clear hv
                go_wp2_with fail
                refine (spoil_row h n2 c2 l2 wr hrow HL2.out hm2).mono ?_
                rintro e w9 ⟨rfl, hg9, l9, hrow9, HL9⟩
                go_wp2_with fail
                exact ⟨⟨j + 1, by omega, by go_num, hK.trans (Keep.of_grown hg9 (fun i e => by simp at e; rw [← e]; exact hin)) (fun _ _ e => e), hSp.spoil hrow HL2.out hg9 hrow9 HL9.out⟩, by simp [intOf]; omega⟩
            · go_wp2_with fail
              exact ⟨⟨k + 1, q', p', zs', by omega, by go_num, hS.step hgB hsz1 hgx hwg hwx hb1 ht1 hP hRP h36 hK⟩, by simp [intOf]; omega⟩
        · go_wp2_with fail
          go_ret
          exact ⟨rfl, hS.bel⟩
end Go.Proofs.Ytbbfjfmcmckdmaa
