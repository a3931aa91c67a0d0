/- The walk of the gauge's takesLevels. No condition but that the gauge and the levels lie in memory, and that few were met. -/
import Derived.Test.YtemgmphddmlmlaaG1
import Derived.Test.YtemgmphddmlmlaaBnd3
namespace Go.Proofs.Ytemgmphddmlmlaa
open Go.RowKit

set_option maxRecDepth 100000 in
set_option maxHeartbeats 400000 in
theorem levels_any {base g left met : Nat} {sp : List Sp} {v : Value} {w : World} (h : GS base g left met sp v w) (hB : base ≤ w.heap.size) (ls : List Lv) (a : Option Addr) (cap : Nat) (k n : Int) (hN : Node w (· < base) k n ls a cap) (hm : met + ls.length ≤ 1048576) :
    Calls Try.prog 22 #[.pointer (some ⟨g, 0, none⟩), .slice a ls.length cap] w (Went (ls.all Lv.fits) base (GS base g left (met + ls.length) sp v) w) := by
  have kc := meets_yes h ls.length (by omega) (by omega)
  have hle := hN.le
  have hmx := hN.max
  cases hf : ls.all Lv.fits
  · go_enter Try.func22, Try.ntmps22
    go_wp2_with (go_at_call 25; refine kc.mono ?_; rintro e w2 ⟨rfl, G2, hb2, hz2⟩)
    have kp := pays_no G2 (by omega)
    have kw := within_any ls w2 base a cap k n (by omega) (hN.below hb2 (Nat.le_refl _))
    rw [hf] at kw
    have HF : Hid _ := hf
    clear kc hf h hN
    go_wp2_with (first
      | (go_at_call 26; refine kp.mono ?_; rintro e w4 ⟨rfl, rfl⟩)
      | (go_at_call 28; refine kw.mono ?_; rintro e w3 ⟨rfl, hb3⟩))
    go_ret
    have hz3 := hb3.size
    exact ⟨rfl, hb2.trans (hb3.mono (by omega)), by omega, fun h => by cases h⟩
  · go_enter Try.func22, Try.ntmps22
    go_wp2_with (go_at_call 25; refine kc.mono ?_; rintro e w2 ⟨rfl, G2, hb2, hz2⟩)
    have kp := pays_no G2 (by omega)
    have kw := within_any ls w2 base a cap k n (by omega) (hN.below hb2 (Nat.le_refl _))
    rw [hf] at kw
    have HF : Hid _ := hf
    clear kc hf h hN
    go_wp2_with (first
      | (go_at_call 26; refine kp.mono ?_; rintro e w4 ⟨rfl, rfl⟩)
      | (go_at_call 28; refine kw.mono ?_; rintro e w3 ⟨rfl, hb3⟩))
    go_ret
    have hz3 := hb3.size
    exact ⟨rfl, hb2.trans (hb3.mono (by omega)), by omega, fun _ => G2.carry hb3 (by omega)⟩

end Go.Proofs.Ytemgmphddmlmlaa
