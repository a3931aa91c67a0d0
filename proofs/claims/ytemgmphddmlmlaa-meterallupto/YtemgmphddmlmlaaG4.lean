/- The walk of the gauge's takes. No condition but that the gauge and the term lie in memory, and that few were met. -/
import Derived.Test.YtemgmphddmlmlaaG3
import Derived.Test.YtemgmphddmlmlaaG2
namespace Go.Proofs.Ytemgmphddmlmlaa
open Go.RowKit

/-- The lists that are open behind a term that was taken. -/
def pushed (sp : List Sp) (T : Tr) (left : Nat) : List Sp := if T.args = [] then sp else sp ++ [⟨T.args, T.a, T.c, T.b, T.off, 0, (left : Int)⟩]

theorem enters_of {base g left met : Nat} {sp : List Sp} {v : Value} {w : World} (h : GS base g left met sp v w) (hB : base ≤ w.heap.size) (T : Tr) (hT : TIn w (· < base) T) (hm : met + T.args.length ≤ 1048576) (hn : sp.length ≤ 1073741824) :
    Calls Try.prog 23 #[.pointer (some ⟨g, 0, none⟩), .slice T.a T.args.length T.c] w (Went true base (fun w' => ∃ v', GS base g left (met + T.args.length) (pushed sp T left) v' w') w) := by
  have hN := tin_iff.1 hT
  unfold pushed
  by_cases h0 : T.args = []
  · rw [if_pos h0, h0]
    exact (enters_nil h _ _).mono fun e w' ⟨h1, h2, h3, h4⟩ => ⟨h1, h2, h3, fun h5 => ⟨_, h4 h5⟩⟩
  · rw [if_neg h0]
    rcases hN.all with h1 | ⟨ha, hS, hall⟩
    · exact absurd h1 h0
    · have := enters_any h hB T.args T.b T.off T.c (List.length_pos_iff.2 h0) hN.le hN.max hS hall hm hn
      rw [← ha] at this
      exact this

set_option maxRecDepth 100000 in
set_option maxHeartbeats 400000 in
theorem takes_any {base g left met : Nat} {sp : List Sp} {v : Value} {w : World} (h : GS base g left met sp v w) (hB : base ≤ w.heap.size) (T : Tr) (b off : Nat) (hb : b < base) (hC : TCells w b off T) (hT : TIn w (· < base) T) (hm : met + T.ls.length + T.args.length ≤ 1048576) (hn : sp.length ≤ 1073741824) (hl : left ≤ 9223372036854775807) :
    Calls Try.prog 17 #[.pointer (some ⟨g, 0, none⟩), .pointer (some ⟨b, off, none⟩)] w (Went (decide (1 ≤ left) && T.ls.all Lv.fits) base (fun w' => ∃ v', GS base g (left - 1) (met + T.ls.length + T.args.length) (pushed sp T (left - 1)) v' w') w) := by
  by_cases h1 : 1 ≤ left
  · have kp := parts_yes h 1 h1 hl
    have hN := tin_iff.1 hT
    rw [decide_eq_true h1, Bool.true_and]
    cases hf : T.ls.all Lv.fits
    · go_enter Try.func17, Try.ntmps17
      go_wp2_with (go_at_call 21; refine kp.mono ?_; rintro e w2 ⟨rfl, G2, hb2, hz2⟩; have C2 := hC.carry (hb2.block b hb); have x3 := C2.c3)
      have kl := levels_any G2 (by omega) T.ls T.la T.lc 0 0 (hN.lv.below hb2 (Nat.le_refl _)) (by omega)
      rw [hf] at kl
      refine kl.mono ?_
      rintro e w3 ⟨rfl, hb3, hz3, _⟩
      clear kl kp h hC hT hN C2 x3
      go_wp2_with fail
      go_ret
      exact ⟨rfl, hb2.trans hb3, by omega, fun h => by cases h⟩
    · go_enter Try.func17, Try.ntmps17
      go_wp2_with (go_at_call 21; refine kp.mono ?_; rintro e w2 ⟨rfl, G2, hb2, hz2⟩; have C2 := hC.carry (hb2.block b hb); have x3 := C2.c3)
      have kl := levels_any G2 (by omega) T.ls T.la T.lc 0 0 (hN.lv.below hb2 (Nat.le_refl _)) (by omega)
      rw [hf] at kl
      refine kl.mono ?_
      rintro e w3 ⟨rfl, hb3, hz3, hG3⟩
      have G3 := hG3 rfl
      have b3 := hb2.trans hb3
      have C3 := hC.carry (b3.block b hb)
      have x4 := C3.c4
      have ke := enters_of G3 (by omega) T (hT.below b3 (Nat.le_refl _)) (by omega) hn
      clear kl kp h hC hT hN C2 x3 hG3 hf
      go_wp2_with (go_at_call 23; refine ke.mono ?_; rintro e w4 ⟨rfl, hb4, hz4, hG4⟩)
      go_ret
      exact ⟨rfl, b3.trans hb4, by omega, fun _ => hG4 trivial⟩
  · obtain ⟨ao, N, cap, rfl⟩ : ∃ ao N cap, v = .slice ao N cap := by
      rcases h.row.2 with ⟨h0, _⟩ | ⟨g, cap, cur, rfl, _⟩
      · exact ⟨none, 0, 0, h0⟩
      · exact ⟨_, _, _, rfl⟩
    rw [decide_eq_false h1, Bool.false_and]
    exact (takes_no g (left : Int) (met : Int) ao N cap (by omega) (.pointer (some ⟨b, off, none⟩)) w h.blk).mono fun e w' ⟨he, hw⟩ => ⟨he, by rw [← hw]; exact Below.refl _ _, by rw [← hw]; exact Nat.le_refl _, fun h => by cases h⟩

end Go.Proofs.Ytemgmphddmlmlaa
