/- FrameOne, the walk: bytes that come one by one tell what they tell at once, and how many wait between. -/
import Derived.Test.YtbbfjfmcmckdmaaMany
import Derived.Test.YtbbfjfmcmckdmaaOnes
namespace Go.Proofs.Ytbbfjfmcmckdmaa
open Go.RowKit

/-- Behind the bytes ys, one by one. -/
structure OneS (w wr : World) (B g1 g2 : Nat) (a : Option Addr) (m c : Nat) (vs : List Value) (q : Option Nat) (ys : List UInt8) : Prop where
  num : m = (rd ys).1.length
  own : AppV 28 B wr a m c vs
  fv : FV wr B vs (rd ys).1
  not : NotIn q vs
  fr : FR wr g1 q (allS ys)
  qn : ∀ b, q = some b → B ≤ b
  all : FR wr g2 none ([], 0)
  bel : Below w.heap.size w wr
  size : B ≤ wr.heap.size

theorem waits_at {g : Nat} {q : Option Nat} {s : RS} {w : World} (h : FR w g q s) {L : Nat} (hL : s.1.length = L) :
    Calls Try.prog 16 #[.pointer (some ⟨g, 0, none⟩)] w fun e w' => e = .returned (.int .i64 (L : Int)) ∧ w = w' := by
  subst hL
  exact waits_any g q s w h

/-- One Put and one append on. -/
theorem OneS.step {w wr w3 w4 : World} {B g1 g2 : Nat} {a : Option Addr} {m c : Nat} {vs : List Value} {q : Option Nat} {ys zs : List UInt8} (hS : OneS w wr B g1 g2 a m c vs q ys) (h1 : g1 < B) (h2 : g2 < B) (h12 : g1 < g2) (hw : w.heap.size ≤ g1)
    {fs : List (List UInt8)} {la : Option Addr} {lk lc : Nat} {us : List Value} {q' : Option Nat} (hP : PutIs wr w3 g1 q fs (allS zs) la lk lc us q') (hE : (rd zs).1 = (rd ys).1 ++ fs)
    {a' : Option Addr} {c' : Nat} (hA3 : AppV 28 B w3 a m c vs) (hA4 : AppV 28 B w4 a' (m + lk) c' (vs ++ us)) (hb4 : Below B w3 w4) (hg4 : w3.grownBy w4 (Value.ownBlock (.slice a m c))) : OneS w w4 B g1 g2 a' (m + lk) c' (vs ++ us) q' zs := by
  have hs3 := hP.keep.size
  have hsz := hS.size
  refine ⟨by rw [hE, List.length_append, ← hS.num, ← hP.num], hA4, ?_, (hS.not.later hS.fv hP.new).app hP.not, hP.fr.grown hA3 h1 hg4, fun b hb => ?_, (hS.all.carry (hP.keep.block g2 hS.all.lt (fun e => ?_)) (fun b hb => by cases hb)).grown hA3 h2 hg4, ?_, ?_⟩
  · rw [hE]
    exact ((hS.fv.put h1 hS.not hP.keep).app (hP.fv.low hsz)).grown hA3 hg4
  · rcases hP.new b hb with e | e
    · exact hS.qn b e
    · omega
  · rcases e with e | e
    · omega
    · have := hS.qn _ e
      omega
  · refine (below_keep hS.bel hP.keep hS.bel.size (fun k e => ?_)).trans (hb4.mono (by omega))
    rcases e with e | e
    · omega
    · have := hS.qn _ e
      omega
  · have := hb4.size
    omega

set_option maxRecDepth 100000 in
set_option maxHeartbeats 2000000 in
theorem one_walk (ao : Option Addr) (n cap : Nat) (bs : List UInt8) (w : World) (hR : Rd w ao n cap bs) :
    Calls Try.prog 7 #[.slice ao n cap] w fun e w' => e = .returned (.bool true) ∧ Below w.heap.size w w' := by
  obtain ⟨i28, hi, hz0, hz1, hz2⟩ := info_parts28
  have HI : Hid _ := hi
  have HZ0 : Hid _ := hz0
  have HZ1 : Hid _ := hz1
  clear hi hz0 hz1
  have hle := hR.le
  have hmx := hR.max
  unfold maxLen at hmx
  by_cases hbig : 400 < n
  · go_enter Try.func7, Try.ntmps7
    go_wp2_with (go_at_call 8; refine (begun_any _).mono ?_; rintro e w0 ⟨rfl, hb0⟩)
    go_ret
    exact ⟨rfl, hb0⟩
  · go_enter Try.func7, Try.ntmps7
    go_wp2_with (go_at_call 8; refine (begun_any _).mono ?_; rintro e w0 ⟨rfl, hb0⟩)
    have hs0 := hb0.size
    refine (new_any w0).mono ?_
    rintro e w1 ⟨g1, rfl, hg1, hF1, hb1⟩
    have hs1 := hb1.size
    have hl1 := hF1.lt
    go_wp2_with fail
    refine (new_any w1).mono ?_
    rintro e w2 ⟨g2, rfl, hg2, hF2, hb2⟩
    have hs2 := hb2.size
    have hl2 := hF2.lt
    have hF1' : FR w2 g1 none ([], 0) := hF1.carry (hb2.block g1 hl1) (fun b hb => by cases hb)
    have hB2 : Below w.heap.size w w2 := (hb0.trans (hb1.mono hs0)).trans (hb2.mono (by omega))
    have hS0 : OneS w w2 w2.heap.size g1 g2 none 0 0 [] none [] := ⟨by rw [rd_nil]; rfl, .inl ⟨rfl, rfl, rfl, rfl⟩, by rw [rd_nil]; exact FV.nil _ _, (fun j a n c hj => by simp at hj), by rw [allS_nil]; exact hF1', (fun b hb => by cases hb), hF2, hB2, Nat.le_refl _⟩
    have h12 : g1 < g2 := by omega
    have hwg : w.heap.size ≤ g1 := by omega
    have hl1' : g1 < w2.heap.size := by omega
    generalize w2.heap.size = B at hS0 hl2 hl1'
    clear hF1 hF2 hF1' hb0 hb1 hb2 hs0 hs1 hs2 hg1 hg2 hB2 hl1
    go_wp2_with fail
    go_loopw [5, 6, 7] (fun s5 s6 s7 wr => ∃ (k : Nat) (a : Option Addr) (m c : Nat) (vs : List Value) (q : Option Nat) (E : Nat), k ≤ n ∧ s7 = .int .i64 (k : Int) ∧ s6 = .int .i64 (E : Int) ∧ s5 = .slice a m c ∧ Hid (E = (allS (bs.take k)).2) ∧ OneS w wr B g1 g2 a m c vs q (bs.take k)) (fun _ _ s7 _ => n - (intOf s7).toNat)
    case atStart => exact ⟨0, none, 0, 0, [], none, 0, by omega, rfl, rfl, rfl, by unfold Hid; rw [List.take_zero, allS_nil], by rw [List.take_zero]; exact hS0⟩
    case round =>
      clear hS0
      obtain ⟨k, a, m, c, vs, q, E, hk, rfl, rfl, rfl, HE, hS⟩ := hrel
      have hcnt := rd_count (bs.take k)
      have hE5 := allS_err (bs.take k)
      rw [← HE.out] at hE5
      rw [← hS.num, List.length_take, hR.len] at hcnt
      have hRr := hR.below hS.bel (Nat.le_refl _)
      by_cases hlt : k < n
      · by_cases hE0 : E = 0
        · subst hE0
          obtain ⟨x, hx⟩ : ∃ x, bs[k]? = some x := ⟨_, List.getElem?_eq_getElem (by rw [hR.len]; exact hlt)⟩
          have HTK : Hid (bs.take (k + 1) = bs.take k ++ [x]) := by unfold Hid; rw [List.take_add_one, hx]; rfl
          obtain ⟨b, off, rfl, _, _⟩ := hRr.at hlt
          obtain ⟨fs, p1, p2, p3, p4, p5, p6⟩ := put_byte (bs.take k) x HE.out.symm
          have hal := allS_len (bs.take k)
          rw [List.length_take, hR.len] at hal
          have hcut := hRr.cut wr k 1 (cap - k) (by omega) (by omega) (by unfold maxLen; omega)
          have hx1 : (bs.drop k).take 1 = [x] := by rw [List.drop_eq_getElem_cons (by rw [hR.len]; exact hlt)]; simp [List.getElem?_eq_some_iff.1 hx |>.2]
          rw [hx1] at hcut
          rw [← HTK.out] at p2 p3 p4 p6
          obtain ⟨E', HE'⟩ : ∃ E', Hid (E' = (allS (bs.take (k + 1))).2) := ⟨_, rfl⟩
          obtain ⟨was, HWA⟩ : ∃ was, Hid ((allS (bs.take k)).1.length = was) := ⟨_, rfl⟩
          obtain ⟨now, HWN⟩ : ∃ now, Hid ((allS (bs.take (k + 1))).1.length = now) := ⟨_, rfl⟩
          rw [← HE'.out] at p3 p6
          rw [HWA.out, HWN.out] at p6
          rw [HWA.out] at hal
          have HP1 : Hid _ := p1
          have HP2 : Hid _ := p2
          have HP3 : Hid _ := p3
          have HP4 : Hid _ := p4
          have HP6 : Hid _ := p6
          clear p1 p2 p3 p4 p6 hx1 hx
          go_wp2_with fail
          refine (waits_at hS.fr HWA.out).mono ?_
          rintro e w9 ⟨rfl, rfl⟩
          go_wp2_with fail
          refine (put_at hS.fr hcut (by rw [HWA.out]; omega) HP1.out HP3.out HP4.out).mono ?_
          rintro e w3 ⟨la, lk, lc, rfl, us, q', hP⟩
          have hA3 := hS.own.put hl1' hS.fr hP.keep
          have hsz3 : B ≤ w3.heap.size := Nat.le_trans hS.size hP.keep.size
          have hlk : lk ≤ 1 := by rw [hP.num]; exact p5
          have hA5 := hP.own
          have h1c := hP.fv.one
          clear hcut
          have hcase : (E' ≠ 0) ∨ (E' = 0 ∧ lk = 0 ∧ now = was + 1) ∨ (E' = 0 ∧ lk = 1 ∧ now = 0) := by
            by_cases h0 : E' = 0
            · rcases HP6.out h0 with ⟨h1, h2⟩ | ⟨h1, h2⟩
              · exact .inr (.inl ⟨h0, by rw [hP.num, h1]; rfl, h2⟩)
              · exact .inr (.inr ⟨h0, by rw [hP.num, h1], h2⟩)
            · exact .inl h0
          rcases hcase with h0 | ⟨rfl, rfl, rfl⟩ | ⟨rfl, rfl, rfl⟩
          · have h0' : ((E' : Int) == 0) = false := by rw [beq_eq_false_iff_ne]; omega
            go_wp2_with (at_builtin; refine wpList_append_vals (P := Try.prog) _ (by rfl) (.tmp 42) (.tmp 43) 22 22 (by rfl) 28 i28 (.slice none 0 0) Try.underlying22 Try.underlying22 HI.out HZ0.out HZ1.out rfl hz2 B hsz3 (by rfl) hA3 (by rfl) hA5 h1c (by omega) ?_; intro a4 c4 w4 hA4 hb4 hg4)
            have hS4 := hS.step hl1' hl2 h12 hwg hP HP2.out hA3 hA4 hb4 hg4
            exact ⟨⟨k + 1, a4, _, c4, _, q', E', by omega, by go_num, rfl, rfl, HE', hS4⟩, by simp [intOf]; omega⟩
          · go_wp2_with (at_builtin; refine wpList_append_vals (P := Try.prog) _ (by rfl) (.tmp 42) (.tmp 43) 22 22 (by rfl) 28 i28 (.slice none 0 0) Try.underlying22 Try.underlying22 HI.out HZ0.out HZ1.out rfl hz2 B hsz3 (by rfl) hA3 (by rfl) hA5 h1c (by omega) ?_; intro a4 c4 w4 hA4 hb4 hg4)
            have hS4 := hS.step hl1' hl2 h12 hwg hP HP2.out hA3 hA4 hb4 hg4
            refine (waits_at hS4.fr HWN.out).mono ?_
            rintro e w9 ⟨rfl, rfl⟩
            go_wp2_with fail
            exact ⟨⟨k + 1, a4, _, c4, _, q', 0, by omega, by go_num, rfl, rfl, HE', hS4⟩, by simp [intOf]; omega⟩
          · go_wp2_with (at_builtin; refine wpList_append_vals (P := Try.prog) _ (by rfl) (.tmp 42) (.tmp 43) 22 22 (by rfl) 28 i28 (.slice none 0 0) Try.underlying22 Try.underlying22 HI.out HZ0.out HZ1.out rfl hz2 B hsz3 (by rfl) hA3 (by rfl) hA5 h1c (by omega) ?_; intro a4 c4 w4 hA4 hb4 hg4)
            have hS4 := hS.step hl1' hl2 h12 hwg hP HP2.out hA3 hA4 hb4 hg4
            refine (waits_at hS4.fr HWN.out).mono ?_
            rintro e w9 ⟨rfl, rfl⟩
            go_wp2_with fail
            exact ⟨⟨k + 1, a4, _, c4, _, q', 0, by omega, by go_num, rfl, rfl, HE', hS4⟩, by simp [intOf]; omega⟩
        · have HA : allS bs = allS (bs.take k) ∧ (rd bs).1 = (rd (bs.take k)).1 := by
            have := allS_stop (bs.take k) (bs.drop k) (by rw [← HE.out]; exact hE0)
            rw [List.take_append_drop] at this
            exact this
          have hEz : ((E : Int) == 0) = false := by rw [beq_eq_false_iff_ne]; omega
          clear hE0
          have HP := allS_first bs
          rw [HA.1, HA.2, ← HE.out] at HP
          obtain ⟨L, HL⟩ : ∃ L, Hid ((allS (bs.take k)).1.length = L) := ⟨_, rfl⟩
          have HP' : Hid _ := HP
          clear HP HA
          go_wp2_with fail
          refine (put_at hS.all hRr (by simp only [List.length_nil]; omega) HP'.out.2.1 HP'.out.2.2 HP'.out.1).mono ?_
          rintro e w5 ⟨wa, wk, wc, rfl, ws5, q5, hP⟩
          obtain rfl : wk = m := by rw [hP.num, ← hS.num]
          have hp1 : Parts w5 w5.heap.size a wk c (rd (bs.take k)).1 := (hS.own.keep hP.keep (fun i e => by rcases e with e | e; omega; cases e)).parts (hS.fv.keep hP.keep (fun i e => by rcases e with e | e; omega; cases e)).pv (Nat.le_refl _)
          have hp2 := hP.parts
          have hr1 : FR w5 g1 q (allS (bs.take k)) := hS.fr.keep hP.keep (fun e => by rcases e with e | e; omega; cases e) (fun b hb e => by have := hS.qn b hb; rcases e with e | e; omega; cases e)
          have hr2 := hP.fr
          have hb5 := below_keep hS.bel hP.keep hS.bel.size (fun i e => by rcases e with e | e; omega; cases e)
          have hE0 : ((E : Int) == (E : Int)) = true := by simp
          clear hP hS hRr
          go_wp2_with fail
          refine (alike_any _ _ _ _ _ _ _ hp1 hp2 (by omega)).mono ?_
          rintro e w6 ⟨rfl, h6, hb6⟩
          have hr1' : FR w6 g1 q (allS (bs.take k)) := hr1.carry (by rw [h6]) (fun _ _ _ => by rw [h6])
          have hr2' : FR w6 g2 q5 (allS (bs.take k)) := hr2.carry (by rw [h6]) (fun _ _ _ => by rw [h6])
          have hb6' := hb5.trans (hb6.mono hb5.size)
          have hL0 : ((L : Int) == (L : Int)) = true := by simp
          clear h6 hr1 hr2 hp1 hp2 hb5 hb6
          go_wp2_with fail
          refine (waits_at hr1' HL.out).mono ?_
          rintro e w9 ⟨rfl, rfl⟩
          go_wp2_with fail
          refine (waits_at hr2' HL.out).mono ?_
          rintro e w9 ⟨rfl, rfl⟩
          go_wp2_with fail
          refine (place_any 1 1 _ (by omega) (by omega)).mono ?_
          rintro e w9 ⟨pz, hpz, rfl, rfl⟩
          obtain rfl : pz = 0 := by omega
          go_wp2_with fail
          go_ret
          exact ⟨rfl, hb6'⟩
      · have HA : allS bs = allS (bs.take k) ∧ (rd bs).1 = (rd (bs.take k)).1 := by
          rw [List.take_of_length_le (by rw [hR.len]; omega)]
          exact ⟨rfl, rfl⟩
        have HP := allS_first bs
        rw [HA.1, HA.2, ← HE.out] at HP
        obtain ⟨L, HL⟩ : ∃ L, Hid ((allS (bs.take k)).1.length = L) := ⟨_, rfl⟩
        have HP' : Hid _ := HP
        clear HP HA
        go_wp2_with fail
        refine (put_at hS.all hRr (by simp only [List.length_nil]; omega) HP'.out.2.1 HP'.out.2.2 HP'.out.1).mono ?_
        rintro e w5 ⟨wa, wk, wc, rfl, ws5, q5, hP⟩
        obtain rfl : wk = m := by rw [hP.num, ← hS.num]
        have hp1 : Parts w5 w5.heap.size a wk c (rd (bs.take k)).1 := (hS.own.keep hP.keep (fun i e => by rcases e with e | e; omega; cases e)).parts (hS.fv.keep hP.keep (fun i e => by rcases e with e | e; omega; cases e)).pv (Nat.le_refl _)
        have hp2 := hP.parts
        have hr1 : FR w5 g1 q (allS (bs.take k)) := hS.fr.keep hP.keep (fun e => by rcases e with e | e; omega; cases e) (fun b hb e => by have := hS.qn b hb; rcases e with e | e; omega; cases e)
        have hr2 := hP.fr
        have hb5 := below_keep hS.bel hP.keep hS.bel.size (fun i e => by rcases e with e | e; omega; cases e)
        have hE0 : ((E : Int) == (E : Int)) = true := by simp
        clear hP hS hRr
        go_wp2_with fail
        refine (alike_any _ _ _ _ _ _ _ hp1 hp2 (by omega)).mono ?_
        rintro e w6 ⟨rfl, h6, hb6⟩
        have hr1' : FR w6 g1 q (allS (bs.take k)) := hr1.carry (by rw [h6]) (fun _ _ _ => by rw [h6])
        have hr2' : FR w6 g2 q5 (allS (bs.take k)) := hr2.carry (by rw [h6]) (fun _ _ _ => by rw [h6])
        have hb6' := hb5.trans (hb6.mono hb5.size)
        have hL0 : ((L : Int) == (L : Int)) = true := by simp
        clear h6 hr1 hr2 hp1 hp2 hb5 hb6
        go_wp2_with fail
        refine (waits_at hr1' HL.out).mono ?_
        rintro e w9 ⟨rfl, rfl⟩
        go_wp2_with fail
        refine (waits_at hr2' HL.out).mono ?_
        rintro e w9 ⟨rfl, rfl⟩
        go_wp2_with fail
        refine (place_any 1 1 _ (by omega) (by omega)).mono ?_
        rintro e w9 ⟨pz, hpz, rfl, rfl⟩
        obtain rfl : pz = 0 := by omega
        go_wp2_with fail
        go_ret
        exact ⟨rfl, hb6'⟩
end Go.Proofs.Ytbbfjfmcmckdmaa
