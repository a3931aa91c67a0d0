/- The walks of Env's Add of one declaration named "a": where nothing is, and where that name is taken. No condition but that the declaration has no lists, and that the tables hold what the program's text lays. -/
import Derived.Test.YtekdalbhgdkckaaGreatDoorE15
namespace Go.Proofs.YtekdalbhgdkckaaGreatDoor
open Go.RowKit

theorem Sheet.drew {w : World} {sh b : Nat} {k : Int} (h : Sheet w sh b k) : Sheet w.drew sh b k := by
  obtain ⟨q, m, c, h1, h2, h3⟩ := h.is
  exact ⟨⟨q, m, c, h1.drew, h2.drew, h3⟩, h.decl.drew⟩

theorem blk_ne {w : World} {g g' : Nat} {t t' : TypeId} {l l' : List Value} (h : Blk w g t l) (h' : Blk w g' t' l') (hne : t ≠ t') : g ≠ g' := fun e => by
  subst e
  unfold Blk at h h'
  rw [h] at h'
  simp at h'
  exact hne h'.2

theorem Sheet.away {w w' : World} {sh b g : Nat} {k : Int} {l : List Value} (h : Sheet w sh b k) (hG : Blk w g 25 l) (hk : Keep w w' (· = g)) : Sheet w' sh b k := by
  obtain ⟨q, m, c, h1, h2, h3⟩ := h.is
  have hm : ¬ m = g := fun e => by
    subst e
    unfold Blk at hG
    rw [h3] at hG
    cases hG
  exact ⟨⟨q, m, c, h1.keep hk (blk_ne h1 hG (by decide)), h2.keep hk (blk_ne h2 hG (by decide)), (hk.block m (Array.getElem?_eq_some_iff.1 h3).1 hm).trans h3⟩, h.decl.keep hk (blk_ne h.decl hG (by decide))⟩

set_option maxRecDepth 100000 in
theorem add_taken (g sh b b2 cap : Nat) (n k k2 : Int) (w : World) (hT : Tabs w) (hG : Blk w g 25 [.pointer (some ⟨sh, 0, none⟩), .int .i64 n]) (hS : Sheet w sh b k) (hB : Blk w b2 32 (dcl k2 aB)) :
    Calls Tryz.prog 6 #[.pointer (some ⟨g, 0, none⟩), .slice (some ⟨b2, 0, none⟩) 1 cap] w fun e w' => e = .returned (.int .i64 10) ∧ Below w.heap.size w w' := by
  have cN := named_any b2 cap k2 w hT hB
  go_enter Tryz.func6, Tryz.ntmps6
  go_wp2_with fail
  refine cN.mono ?_
  rintro e w1 ⟨rfl, hb1⟩
  have cT := taken_one g sh b b2 cap n k k2 w1 (hG.on hb1) (hS.on hb1) (hB.on hb1)
  clear cN hG hS hB hT
  go_wp2_with fail
  refine cT.mono ?_
  rintro e w2 ⟨rfl, hb2⟩
  clear cT
  go_wp2_with fail
  go_ret
  exact ⟨rfl, hb1.trans (hb2.mono hb1.size)⟩

set_option maxRecDepth 100000 in
set_option maxHeartbeats 2000000 in
theorem add_ok (g b2 : Nat) (n k2 : Int) (w : World) (hT : Tabs w) (hG : Blk w g 25 [.pointer none, .int .i64 n]) (hB : Blk w b2 32 (dcl k2 aB)) :
    Calls Tryz.prog 6 #[.pointer (some ⟨g, 0, none⟩), .slice (some ⟨b2, 0, none⟩) 1 1] w fun e w' => e = .returned (.int .i64 0) ∧ (∃ sh o, Blk w' g 25 [.pointer (some ⟨sh, 0, none⟩), .int .i64 n] ∧ Sheet w' sh o k2) ∧ Keep w w' (· = g) := by
  have cN := named_any b2 1 k2 w hT hB
  go_enter Tryz.func6, Tryz.ntmps6
  go_wp2_with fail
  refine cN.mono ?_
  rintro e w1 ⟨rfl, hb1⟩
  have cT := taken_none g b2 1 n k2 w1 (hG.on hb1) (hB.on hb1)
  clear cN hT
  go_wp2_with fail
  refine cT.mono ?_
  rintro e w2 ⟨rfl, hb2⟩
  have G2 := (hG.on hb1).on hb2
  have B2 := (hB.on hb1).on hb2
  have k2' : Keep w w2 (· = g) := Keep.of_below (hb1.trans (hb2.mono hb1.size)) (Nat.le_refl _)
  have lg := hG.lt
  have lg2 := G2.lt
  have hsz : w.heap.size ≤ w2.heap.size := k2'.size
  have x0 := G2.cell (j := 0) rfl
  have x1 := G2.cell (j := 1) rfl
  have cK := kept_any b2 1 k2 w2.drew B2.drew
  clear cT hG hB hb1 hb2
  have F1 : Hid (∀ w3, Below w2.drew.heap.size w2.drew w3 → w3.cell? ⟨g, 0, none⟩ = some (.pointer none) ∧ w3.cell? ⟨g, 1, none⟩ = some (.int .i64 n) ∧ w3.frozen? ⟨g, 0, none⟩ = false) := fun w3 hb => by
    have G3 := G2.drew.on hb
    exact ⟨G3.cell (j := 0) rfl, G3.cell (j := 1) rfl, G3.frozen 0⟩
  go_wp2_with fail
  go_region_with (first
    | (go_at_call 18; refine cK.mono ?_; rintro e w3 ⟨q, o, rfl, Q3, O3, _, _, hb3⟩; obtain ⟨z0, z1, z2⟩ := F1.out w3 hb3)
    | (go_at_call 17; refine (with_any q o k2 n w3 Q3 O3).mono ?_; rintro e w4 ⟨sh, rfl, S4, hsh, hb4⟩; obtain ⟨z0', z1', z2'⟩ := F1.out w4 (hb3.trans (hb4.mono hb3.size))))
  all_goals
    have h24 : Below w2.heap.size w2 w4 := (Below.drew (Below.refl w2.heap.size w2)).trans (hb3.trans (hb4.mono hb3.size))
    have G4 := G2.on h24
    have kk : Keep w4 (w4.setCell ⟨g, 0, none⟩ (.pointer (some ⟨sh, 0, none⟩))) (· = g) := (Keep.refl w4 (· = g)).setCell (g := g) (fun _ => rfl) 0 _
    have GG := G4.set 0 (.pointer (some ⟨sh, 0, none⟩))
    have SS := S4.away G4 kk
    have KK : Keep w (w4.setCell ⟨g, 0, none⟩ (.pointer (some ⟨sh, 0, none⟩))) (· = g) := (k2'.trans (Keep.of_below h24 (Nat.le_refl _)) (fun _ _ e => e)).trans kk (fun _ _ e => e)
    obtain ⟨w5, hw5⟩ : ∃ w5, w4.setCell ⟨g, 0, none⟩ (.pointer (some ⟨sh, 0, none⟩)) = w5 := ⟨_, rfl⟩
    rw [hw5] at GG SS KK ⊢
    clear G2 G4 kk Q3 O3 cK F1 z0 z1 z2 z0' z1' z2' hw5 x0 x1 S4 B2
    go_wp2_with fail
    go_ret
    exact ⟨rfl, ⟨sh, o, GG, SS⟩, KK⟩
end Go.Proofs.YtekdalbhgdkckaaGreatDoor
