/- The walk of a tally's leave, where nothing is noted. No condition but that the tally and its list lie in memory and few parts are met. -/
import Derived.Test.YtbmijpjmdpdfkaaDoorTa2
namespace Go.Proofs.YtbmijpjmdpdfkaaDoor
open Go.RowKit

set_option maxRecDepth 100000 in
set_option maxHeartbeats 2000000 in
theorem leave_any (B tg n met b off len c g cap sz bsz : Nat) (p : Bool) (x0 x1 x2 : Value) (i : Int) (xs : List Value) (w : World) (hB : Blk w tg 105 [.slice none 0 0, .int .i64 (met : Int), .slice (some ⟨g, 0, none⟩) (n + 2) cap, .map none])
    (hO : w.ownsRow B 131 4 (.slice (some ⟨g, 0, none⟩) (n + 2) cap) (n + 2) ((xs ++ [x0, x1, x2, .int .i64 (bsz : Int)]) ++ [.slice (some ⟨b, off, none⟩) len c, .bool p, .int .i64 i, .int .i64 (sz : Int)])) (hlen : 0 < len) (hm : met ≤ 262144) (hn : n ≤ 1073741824) (hs : bsz + sz ≤ 67108865) :
    Calls Tryd.prog 91 #[.pointer (some ⟨tg, 0, none⟩)] w fun e w' => e = .returned (.tuple #[]) ∧ Ent w w' B tg (.slice (some ⟨g, 0, none⟩) (n + 2) cap) (.slice (some ⟨g, 0, none⟩) (n + 1) cap) met (n + 1) (xs ++ [x0, x1, x2, .int .i64 ((bsz + sz : Nat) : Int)]) := by
  have hxl : xs.length = n * 4 := by have := hO.1; simp at this; omega
  have at_ : ∀ j u, ([.slice (some ⟨b, off, none⟩) len c, .bool p, .int .i64 i, .int .i64 (sz : Int)] : List Value)[j]? = some u → w.cell? ⟨g, (n + 1) * 4 + j, none⟩ = some u := fun j u hj => by
    obtain ⟨g2, h1, _, _, _, _, h2⟩ := owns_cell hO (i := (n + 1) * 4 + j) (c := u) (by rw [List.getElem?_append_right (by simp; omega)]; rw [← hj]; congr 1; simp; omega)
    simp only [Option.some.injEq, Addr.mk.injEq, and_true] at h1
    rw [h1]; exact h2
  have a0 : w.cell? ⟨g, (n + 1) * 4, none⟩ = _ := at_ 0 _ rfl
  have a1 := at_ 1 _ rfl
  have a2 := at_ 2 _ rfl
  have a3 := at_ 3 _ rfl
  obtain ⟨g2, cap2, e2, hg1, hg2, hg3, hg4⟩ := owns_shape hO (by omega)
  simp only [Value.slice.injEq, Option.some.injEq, Addr.mk.injEq, and_true, true_and] at e2
  obtain ⟨rfl, rfl⟩ := e2
  have t2 := hB.cell (j := 2) rfl
  have lg := hB.lt
  have hgt : g ≠ tg := fun e => owns_ne hO hB (by decide) (by rw [e]; rfl)
  obtain ⟨w1, hw1, hb1, P1, hs1⟩ := one_new w [.slice (some ⟨b, off, none⟩) len c, .bool p, .int .i64 i, .int .i64 (sz : Int)] 131
  have B1 := hB.below hb1 hB.lt
  have t2' := B1.cell (j := 2) rfl
  have tf := B1.frozen 2
  have e12 : ((n : Int) + 2 - 1) = (n : Int) + 1 := by omega
  have hne : w.heap.size ≠ tg := by omega
  go_enter Tryd.func91, Tryd.ntmps91
  go_wp2_with fail
  obtain ⟨w2, hw2, K2⟩ : ∃ w2, w1.setCell ⟨tg, 2, none⟩ (.slice (some ⟨g, 0, none⟩) (n + 1) cap) = w2 ∧ Keep w1 w2 (fun k => k = tg) := ⟨_, rfl, (Keep.refl w1 (fun k => k = tg)).setCell (g := tg) (fun _ => rfl) _ _⟩
  have B2 : Blk w2 tg 105 [.slice none 0 0, .int .i64 (met : Int), .slice (some ⟨g, 0, none⟩) (n + 1) cap, .map none] := by rw [← hw2]; exact B1.set 2 _
  have P2 := P1.keep K2 hne
  have hz2 := K2.size
  rw [hw2]
  have p0 := P2.cell (j := 0) rfl
  have p3 := P2.cell (j := 3) rfl
  have hcall := spot_any w.heap.size 0 b off len c p w2.drew (P2.drew.cell (j := 0) rfl) (P2.drew.cell (j := 1) rfl) hlen
  clear hw1 hw2
  go_region_held3 (fun w' => w'.cell? ⟨w.heap.size, 3, none⟩ = some (.int .i64 (sz : Int))) (go_keep)
    (first
      | (go_at_call 95; refine hcall.mono ?_; rintro e w3 ⟨rfl, hb3'⟩; have hb3 : Below w2.heap.size w2 w3 := Below.trans (Below.refl _ _).drew hb3'; have B3 := B2.below hb3 B2.lt; have P3 := P2.below hb3 P2.lt; have q3 := P3.cell (j := 3) rfl; have hcall3 := note_few tg (.slice none 0 0) (.slice (some ⟨g, 0, none⟩) (n + 1) cap) (.map none) (.pointer (some ⟨b, off, none⟩)) (.int .i64 (len : Int)) (.bool p) (met : Int) (sz : Int) w3 B3 (by omega))
      | (go_at_call 96; refine hcall3.mono ?_; rintro e w4 ⟨rfl, hb4⟩; have B4 := B3.below hb4 B3.lt; have P4 := P3.below hb4 P3.lt; have r3 := P4.cell (j := 3) rfl))
  have h1 := owns_cut (owns_below hO hb1) (m := n + 1) (by simp; omega) (by omega)
  have h2 := owns_block h1 (fun k e => K2.block k (owns_own h1 e).2 (fun h => owns_ne h1 B1 (by decide) (by rw [e, h])))
  have h4 := owns_below (owns_below h2 hb3) hb4
  obtain ⟨g3, e3, _, _, _, _, hg5⟩ := owns_cell h4 (i := n * 4 + 3) (c := .int .i64 (bsz : Int)) (by rw [List.getElem?_append_right (by omega), hxl, show n * 4 + 3 - n * 4 = 3 from by omega]; rfl)
  simp only [Option.some.injEq, Addr.mk.injEq, and_true] at e3
  subst e3
  have hcall5 := grow_any tg g n cap (.slice none 0 0) (.int .i64 (met : Int)) (.map none) bsz sz w4 B4 hg5 (owns_frozen h4 _) hn hs
  clear hcall hcall3
  go_wp2_with fail
  refine hcall5.mono ?_
  rintro e w5 ⟨rfl, q, rfl⟩
  go_wp2_with fail
  go_end0
  have hb34 := hb3.trans (hb4.mono hb3.size)
  have K4 : Keep w w4 (fun k => k = tg ∨ (Value.slice (some ⟨g, 0, none⟩) (n + 2) cap).ownBlock = some k) := ((Keep.of_below hb1 (Nat.le_refl _)).trans (K2.mono (fun k e => .inl e)) (fun _ _ h => h)).low hb34 (by omega)
  have h5 : (w4.drewN q).ownsRow B 131 4 (.slice (some ⟨g, 0, none⟩) (n + 1) cap) (n + 1) (xs ++ [x0, x1, x2, .int .i64 (bsz : Int)]) := owns_block h4 (fun _ _ => rfl)
  have h6 := owns_set h5 (n * 4 + 3) (.int .i64 ((bsz : Int) + (sz : Int)))
  rw [List.set_append_right _ _ (by omega), hxl, show n * 4 + 3 - n * 4 = 3 from by omega] at h6
  exact ⟨rfl, (B4.drewN q).other _ (fun e => hgt e.symm), h6, .inl rfl, (K4.drewN q).setCell (g := g) (fun _ => .inr rfl) _ _⟩
end Go.Proofs.YtbmijpjmdpdfkaaDoor
