/- The walk of the gauge's takesLevels. No condition but that the gauge and the levels lie in memory, and that few were met. -/
import Derived.Test.YtlmiidjjgebplaaG1
namespace Go.Proofs.Ytlmiidjjgebplaa
open Go.RowKit

theorem lookL (a : Value) (n : Int) (w : World) : (Instr.lookup 42 (.map none) (.agg #[a, .int .i64 n]) true).run Try.prog w = .ok (.tuple #[.int .i64 0, .bool false]) w := by kernel_rfl
theorem lookT (a : Value) (n : Int) (w : World) : (Instr.lookup 40 (.map none) (.agg #[a, .int .i64 n]) true).run Try.prog w = .ok (.tuple #[.int .i64 0, .bool false]) w := by kernel_rfl

/-- What a step of a gauge may tell: no, or yes with a gauge that has gone on. -/
def Went (ok : Bool) (base : Nat) (G : World → Prop) (w : World) (e : Ending) (w' : World) : Prop := e = .returned (.bool ok) ∧ Below base w w' ∧ w.heap.size ≤ w'.heap.size ∧ (ok = true → G w')

set_option maxRecDepth 100000 in
set_option maxHeartbeats 400000 in
theorem levels_any {base g left met : Nat} {sp : List Sp} {v : Value} {w : World} (h : GS base g left met sp v w) (hB : base ≤ w.heap.size) (ls : List Lv) (a : Option Addr) (cap : Nat) (k n : Int) (hN : Node w (· < base) k n ls a cap) (hm : met + ls.length ≤ 1048576) :
    Calls Try.prog 22 #[.pointer (some ⟨g, 0, none⟩), .slice a ls.length cap] w (Went (ls.all Lv.fits) base (GS base g left (met + ls.length) sp v) w) := by
  have hle := hN.le
  have hmx := hN.max
  cases hls : ls with
  | nil =>
    subst hls
    simp only [List.length_nil, List.all_nil, Nat.add_zero] at *
    clear hN
    go_enter Try.func22, Try.ntmps22
    go_wp2
    go_ret
    exact ⟨rfl, Below.refl _ _, Nat.le_refl _, fun _ => h⟩
  | cons x r =>
    rw [← hls]
    have hpos : 0 < ls.length := by rw [hls]; simp
    obtain ⟨b, off, ha, _⟩ : ∃ b off, a = some ⟨b, off, none⟩ ∧ True := by
      rcases hN.all with h0 | ⟨b, off, ha, _⟩
      · rw [hls] at h0; cases h0
      · exact ⟨b, off, ha, trivial⟩
    subst ha
    have c4 := over_cell (h.blk.cell (j := 4) rfl)
    have k25 : ∀ u, Calls Try.prog 25 #[.slice (some ⟨b, off, none⟩) ls.length cap] (over w u) fun e w'' => e = .returned (.agg #[.pointer (some ⟨b, off, none⟩), .int .i64 (ls.length : Int)]) ∧ ∃ u', w'' = over w u' := fun u => Calls.over (spotL_any _ _ _ _ hpos)
    have hlook := lookL
    have hd0 : ((ls.length : Int) == 0) = false := by simp; intro e; rw [hls] at e; cases e
    clear hls
    go_enter Try.func22, Try.ntmps22
    go_wp2_with fail
    refine wp_region_over w (Below.refl _ _) (by kernel_rfl) (by kernel_rfl) ?_
    repeat (go_big_quiet_step (first | (go_at_call 25; exact k25 _)))
    refine wpQuiet_nil ?_
    rintro _ ⟨u, rfl⟩
    have hb1 := over_below w u
    have G1 := h.carry hb1 hB
    have hN1 := hN.below hb1 hB
    have hz1 := hb1.size
    generalize over w u = w1 at *
    clear hlook k25 c4
    have kc := meets_yes G1 ls.length (by omega)
    have hB1 : base ≤ w1.heap.size := by omega
    go_wp2_with (go_at_call 26; refine kc.mono ?_; rintro e w2 ⟨rfl, G2, hb2, hz2⟩)
    have kw := within_any ls w2 base (some ⟨b, off, none⟩) cap k n (by omega) (hN1.below hb2 (Nat.le_refl _))
    have hB2 : Below base w w2 := (hb1.mono hB).trans hb2
    clear kc
    cases hf : ls.all Lv.fits
    · rw [hf] at kw
      refine kw.mono ?_
      rintro e w3 ⟨rfl, hb3⟩
      have HF : Hid _ := hf
      clear kw hf G1 h hN hN1
      go_wp2_with fail
      go_ret
      have hz3 := hb3.size
      rw [HF.out]
      exact ⟨rfl, hB2.trans (hb3.mono (by omega)), by omega, fun h => by cases h⟩
    · rw [hf] at kw
      refine kw.mono ?_
      rintro e w3 ⟨rfl, hb3⟩
      have G3 := G2.carry hb3 (by omega)
      have kp := pays_no G3 (by omega)
      have HF : Hid _ := hf
      clear kw hf G1 h hN hN1
      go_wp2_with (go_at_call 28; refine kp.mono ?_; rintro e w4 ⟨rfl, rfl⟩)
      go_ret
      have hz3 := hb3.size
      rw [HF.out]
      exact ⟨rfl, hB2.trans (hb3.mono (by omega)), by omega, fun _ => G3⟩
end Go.Proofs.Ytlmiidjjgebplaa
