/- The walks of the document's own answer to frame: read, Put and Waits of its Reader. No condition but that the bytes are no more than 2^30. -/
import Derived.Test.YtbbfjfmcmckdmaaRef1
import Derived.Test.YtbbfjfmcmckdmaaGot
namespace Go.Proofs.Ytbbfjfmcmckdmaa
open Go.RowKit

theorem rtakeText_at {ao : Option Addr} {n cap : Nat} {bs : List UInt8} {w : World} (h : Rd w ao n cap bs) (hn : n ≤ 1099511627776) {l : List UInt8} {k er : Nat} (hr : t1 bs = (l, k, er)) :
    Calls Try.prog 29 #[.slice ao n cap, .int .i64 65536] w fun e w' => ∃ ao' cap', e = .returned (.tuple #[.slice ao' l.length cap', .int .i64 (k : Int), .int .i64 (er : Int)]) ∧
      Res 5 w.heap.size w' ao' l.length cap' l ∧ Below w.heap.size w w' := by
  have := rtakeText_any ao n cap bs 65536 w h hn (by decide) (by decide)
  rw [show tt bs 65536 = (l, k, er) from hr] at this
  exact this

/-- What read has come to. -/
structure Red (w wr : World) (bs : List UInt8) (k : Nat) (a : Option Addr) (m c : Nat) (vs : List Value) (fs : List (List UInt8)) : Prop where
  num : m = fs.length
  own : AppV 28 w.heap.size wr a m c vs
  fv : FV wr w.heap.size vs fs
  bel : Below w.heap.size w wr
  said : fs ++ (rd (bs.drop k)).1 = (rd bs).1 ∧ (rd (bs.drop k)).2 = (rd bs).2
  le : m ≤ k

def ReadIs (w w' : World) (bs : List UInt8) (n : Nat) (a : Option Addr) (m c k E : Nat) : Prop := E = (allS bs).2 ∧ k + (rd bs).2.1.length = n ∧ ∃ vs, Red w w' bs k a m c vs (rd bs).1

set_option maxRecDepth 100000 in
set_option maxHeartbeats 2000000 in
theorem read_any (ao : Option Addr) (n cap : Nat) (bs : List UInt8) (w : World) (hR : Rd w ao n cap bs) (hA : (ao = none ∧ n = 0 ∧ cap = 0) ∨ ∃ b off, ao = some ⟨b, off, none⟩) (hn : n ≤ 1073741824) :
    Calls Try.prog 26 #[.slice ao n cap] w fun e w' => ∃ a m c k E, e = .returned (.tuple #[.slice a m c, .int .i64 ((k : Nat) : Int), .int .i64 ((E : Nat) : Int)]) ∧ ReadIs w w' bs n a m c k E := by
  obtain ⟨i28, hi, hz0, hz1, hz2⟩ := info_parts28
  have HI : Hid _ := hi
  have HZ0 : Hid _ := hz0
  have HZ1 : Hid _ := hz1
  clear hi hz0 hz1
  have hle := hR.le
  have hmx := hR.max
  unfold maxLen at hmx
  have HL : Hid _ := hR.len
  go_enter Try.func26, Try.ntmps26
  go_wp2_with fail
  go_loopw [5, 6] (fun s5 s6 wr => ∃ (k : Nat) (a : Option Addr) (m c : Nat) (vs : List Value) (fs : List (List UInt8)), k ≤ n ∧ s6 = .int .i64 (k : Int) ∧ s5 = .slice a m c ∧ Red w wr bs k a m c vs fs) (fun _ s6 _ => n - (intOf s6).toNat)
  case atStart => exact ⟨0, none, 0, 0, [], [], by omega, rfl, rfl, rfl, .inl ⟨rfl, rfl, rfl, rfl⟩, FV.nil _ _, Below.refl _ _, ⟨by simp, by simp⟩, Nat.le_refl _⟩
  case round =>
    obtain ⟨k, a, m, c, vs, fs, hk, rfl, rfl, hS⟩ := hrel
    obtain ⟨t, tn, er, ht⟩ : ∃ t tn er, t1 (bs.drop k) = (t, tn, er) := ⟨_, _, _, rfl⟩
    have hmk := hS.le
    have hsz := hS.bel.size
    have hRr := hR.below hS.bel (Nat.le_refl _)
    have fin : ∀ w1, er ≠ 0 → Below wr.heap.size wr w1 → (E : Nat) → (E = if er = 2 then 0 else er) → ReadIs w w1 bs n a m c k E := by
      intro w1 h0 hb E hE
      have h1 := rd_stop ht h0
      have e1 : fs = (rd bs).1 := by have := hS.said.1; rw [h1] at this; simpa using this
      have e2 : (rd bs).2 = (bs.drop k, er) := by have := hS.said.2; rw [h1] at this; exact this.symm
      refine ⟨?_, ?_, vs, ?_⟩
      · unfold allS
        rw [e2, hE]
        simp only
        split <;> rfl
      · rw [e2]
        simp only [List.length_drop]
        rw [HL.out]
        omega
      · exact ⟨by rw [← e1]; exact hS.num, hS.own.below hb (Nat.le_refl _), by rw [← e1]; exact hS.fv.carry (fun j _ _ _ ho => hb.block j ho.lt), hS.bel.trans (hb.mono hsz), ⟨by rw [h1, List.append_nil], by rw [h1, e2]⟩, hmk⟩
    rcases hA with ⟨rfl, rfl, rfl⟩ | ⟨b, off, rfl⟩
    · have hrr : Rd wr none 0 0 (bs.drop k) := by
        rw [List.eq_nil_of_length_eq_zero hRr.len, List.drop_nil]
        exact Rd.none' wr none
      have FIN : Hid _ := fin
      clear fin
      have h00 : er ≠ 0 := fun h0 => by
        subst h0
        have hp := t1_pos (bs.drop k) (by rw [ht])
        rw [ht, List.length_drop, HL.out] at hp
        obtain ⟨hp1, hp2⟩ := hp
        simp only at hp1 hp2
        omega
      go_wp2_with fail
      refine (rtakeText_at hrr (by omega) ht).mono ?_
      rintro e w1 ⟨ta, tc, rfl, hres, hb1⟩
      by_cases h2 : er = 2
      · subst h2
        go_wp2_with fail
        go_ret3
        exact ⟨a, m, c, k, 0, rfl, FIN.out w1 (by omega) hb1 0 rfl⟩
      · have he2 : ((er : Int) == 2) = false := by rw [beq_eq_false_iff_ne]; omega
        have he0 : ((er : Int) == 0) = false := by rw [beq_eq_false_iff_ne]; omega
        go_wp2_with fail
        go_ret3
        exact ⟨a, m, c, k, er, rfl, FIN.out w1 h00 hb1 er (by rw [if_neg h2])⟩
    · have hrr := hRr.rest k hk
      by_cases hck : cap = k
      · rw [if_pos hck, show n - k = 0 by omega, show cap - k = 0 by omega] at hrr
        subst hck
        have FIN : Hid _ := fin
        clear fin
        have h00 : er ≠ 0 := fun h0 => by
          subst h0
          have hp := t1_pos (bs.drop cap) (by rw [ht])
          rw [ht, List.length_drop, HL.out] at hp
          obtain ⟨hp1, hp2⟩ := hp
          simp only at hp1 hp2
          omega
        go_wp2_with fail
        refine (rtakeText_at hrr (by omega) ht).mono ?_
        rintro e w1 ⟨ta, tc, rfl, hres, hb1⟩
        by_cases h2 : er = 2
        · subst h2
          go_wp2_with fail
          go_ret3
          exact ⟨a, m, c, cap, 0, rfl, FIN.out w1 (by omega) hb1 0 rfl⟩
        · have he2 : ((er : Int) == 2) = false := by rw [beq_eq_false_iff_ne]; omega
          have he0 : ((er : Int) == 0) = false := by rw [beq_eq_false_iff_ne]; omega
          go_wp2_with fail
          go_ret3
          exact ⟨a, m, c, cap, er, rfl, FIN.out w1 h00 hb1 er (by rw [if_neg h2])⟩
      · rw [if_neg hck] at hrr
        have FIN : Hid _ := fin
        clear fin
        go_wp2_with fail
        refine (rtakeText_at hrr (by omega) ht).mono ?_
        rintro e w1 ⟨ta, tc, rfl, hres, hb1⟩
        by_cases h2 : er = 2
        · subst h2
          go_wp2_with fail
          go_ret3
          exact ⟨a, m, c, k, 0, rfl, FIN.out w1 (by omega) hb1 0 rfl⟩
        · by_cases h0 : er = 0
          · subst h0
            have hp := t1_pos (bs.drop k) (by rw [ht])
            rw [ht, List.length_drop, HL.out] at hp
            obtain ⟨hp1, hp2⟩ := hp
            simp only at hp1 hp2
            have HS : Hid _ := rd_at ht
            have hs1 := hb1.size
            have hA1 := (hS.own.below hb1 (Nat.le_refl _)).alloc (.cells #[.slice ta t.length tc] 28)
            have hcn' : Hid ((w1.alloc (.cells #[.slice ta t.length tc] 28)).cell? ⟨w1.heap.size, 0, none⟩ = some (.slice ta t.length tc)) := (Blk.new w1 28 [.slice ta t.length tc]).cell rfl
            have hF1 := (hS.fv.carry (w' := w1) (fun j _ _ _ ho => hb1.block j ho.lt)).snoc (hres.low hsz)
            have hF2 : FV (w1.alloc (.cells #[.slice ta t.length tc] 28)) w.heap.size _ _ := hF1.carry (fun k n cap bs ho => Below.heap_alloc w1 _ k ho.lt)
            have hB2 : Below w.heap.size w (w1.alloc (.cells #[.slice ta t.length tc] 28)) := (hS.bel.trans (hb1.mono hsz)).alloc (by omega) _
            clear hF1
            go_wp2_with (at_builtin; refine wpList_append_val (P := Try.prog) _ (by rfl) (.tmp 27) (.tmp 29) 22 22 (by rfl) 28 i28 (.slice none 0 0) Try.underlying22 HI.out HZ0.out HZ1.out rfl hz2 w.heap.size (by simp; omega) (by rfl) hA1 (.slice ta t.length tc) (by rfl) (src_val _ Try.underlying22 w1.heap.size _ _ rfl hcn'.out) (by omega) ?_; intro g2 c2 w2 ho2 hb2 hg2 hw2)
            refine ⟨⟨k + tn, some ⟨g2, 0, none⟩, m + 1, c2, _, fs ++ [t], by omega, by go_num, rfl, by simp [hS.num], .inr ⟨g2, rfl, ho2⟩, hF2.carry (fun j n cap bs ho => hg2.block j ho.lt (ho.neApp hA1)), hB2.trans hb2, ⟨?_, ?_⟩, by omega⟩, by simp [intOf]; omega⟩
            · rw [← hS.said.1, HS.out, List.drop_drop]
              simp
            · rw [← hS.said.2, HS.out, List.drop_drop]
          · have he2 : ((er : Int) == 2) = false := by rw [beq_eq_false_iff_ne]; omega
            have he0 : ((er : Int) == 0) = false := by rw [beq_eq_false_iff_ne]; omega
            go_wp2_with fail
            go_ret3
            exact ⟨a, m, c, k, er, rfl, FIN.out w1 h0 hb1 er (by rw [if_neg h2])⟩
end Go.Proofs.Ytbbfjfmcmckdmaa
