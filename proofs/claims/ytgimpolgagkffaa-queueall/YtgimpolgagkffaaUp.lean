/- The walk of container/heap's up over a queue's row: what was a heap but for one that may go up is one. No condition but sizes. -/
import Derived.Test.YtgimpolgagkffaaMeth
namespace Go.Proofs.Ytgimpolgagkffaa
open Go.RowKit

/-- Less and Swap behind the interface, at a row that block g holds. -/
structure QR (w : World) (g b cap : Nat) (L : List En) : Prop where
  cell : w.cell? ⟨g, 0, none⟩ = some (.slice (some ⟨b, 0, none⟩) L.length cap)
  row : Row w b cap L
  ne : g ≠ b

theorem QR.glt {w : World} {g b cap : Nat} {L : List En} (h : QR w g b cap L) : g < w.heap.size := World.block_lt_of_cell? w _ h.cell
theorem QR.below {w w' : World} {g b cap : Nat} {L : List En} (h : QR w g b cap L) (hb : Below w.heap.size w w') : QR w' g b cap L :=
  ⟨(hb.cell (p := ⟨g, 0, none⟩) h.glt).trans h.cell, h.row.below hb h.row.lt, h.ne⟩
theorem QR.drew {w : World} {g b cap : Nat} {L : List En} (h : QR w g b cap L) : QR w.drew g b cap L := ⟨h.cell, h.row.drew, h.ne⟩
theorem QR.keep {w w' : World} {g b cap : Nat} {L L' : List En} (h : QR w g b cap L) (hl : L'.length = L.length) (hr : Row w' b cap L') (hk : Keep w w' (· = b)) : QR w' g b cap L' :=
  ⟨by rw [hl]; exact (World.cell?_of_block (w := w) (hk.block g h.glt h.ne)).trans h.cell, hr, h.ne⟩

set_option maxRecDepth 100000 in
set_option maxHeartbeats 2000000 in
theorem up_any (g b cap : Nat) (L : List En) (j : Nat) (w : World) (hQ : QR w g b cap L) (hj : j < L.length) (hm : L.length ≤ 1000000) (hU : UpOk L j) :
    Calls Try.prog 24 #[.iface 55 (.pointer (some ⟨g, 0, none⟩)), .int .i64 (j : Int)] w fun e w' => e = .returned (.tuple #[]) ∧ ∃ L', L'.Perm L ∧ HeapFrom L' L'.length 0 ∧ QR w' g b cap L' ∧ Keep w w' (· = b) := by
  have e67 : ∀ args w, (callFunc 67 args).run Try.prog w = .ok (.enter 67 args) w := enter_of Try.func67 (by kernel_rfl) rfl
  have e68 : ∀ args w, (callFunc 68 args).run Try.prog w = .ok (.enter 68 args) w := enter_of Try.func68 (by kernel_rfl) rfl
  go_enter Try.func24, Try.ntmps24
  go_wp2_with fail
  go_loopw [1] (fun vj wr => ∃ (j : Nat) (L' : List En), vj = .int .i64 (j : Int) ∧ j < L.length ∧ L'.Perm L ∧ UpOk L' j ∧ QR wr g b cap L' ∧ Keep w wr (· = b)) (fun vj _ => (intOf vj).toNat)
  case atStart => exact ⟨j, L, rfl, hj, List.Perm.refl _, hU, hQ, Keep.refl _ _⟩
  case round =>
    clear hQ hU hj
    obtain ⟨j, L', rfl, hj, hP, hU, hQ, hK⟩ := hrel
    have hl := hP.length_eq
    by_cases h0 : j = 0
    · subst h0
      have FIN : Hid _ := hU.done (.inl rfl)
      clear hU
      go_wp2_with fail
      go_end0
      exact ⟨rfl, L', hP, FIN.out, hQ, hK⟩
    · obtain ⟨p, hp⟩ : ∃ p, (j - 1) / 2 = p := ⟨_, rfl⟩
      have hpj : p < j := by omega
      have hd : ((j : Int) - 1).tdiv 2 = (p : Int) := by
        rw [show (j : Int) - 1 = ((j - 1 : Nat) : Int) by omega, ← hp]; exact (Int.ofNat_tdiv (j - 1) 2).symm
      have hne : ((p : Int) == (j : Int)) = false := by simp; omega
      have HP : Hid _ := hp
      have mL := m_less g wr _ hQ.cell
      have hj' : j < L'.length := by omega
      have HL : Hid _ := hl
      clear hl
      have ST : Hid _ := fun hb => hU.step (by omega) (by omega) hb
      have DN : Hid _ := fun hb => hU.done (.inr hb)
      clear hU hp
      cases hb : before (nth L' j) (nth L' p) with
      | false =>
        have HB : Hid _ := hb
        clear hb
        go_wp2_with fail
        refine (less_any b cap L' j p wr hQ.row hj' (by omega)).mono ?_
        rw [HB.out]
        rintro e w1 ⟨rfl, hb1⟩
        go_wp2_with fail
        go_end0
        exact ⟨rfl, L', hP, DN.out (by rw [HP.out]; exact HB.out), hQ.below hb1, hK.low hb1 hK.size⟩
      | true =>
        have HB : Hid _ := hb
        clear hb
        go_wp2_with fail
        refine (less_any b cap L' j p wr hQ.row hj' (by omega)).mono ?_
        rw [HB.out]
        rintro e w1 ⟨rfl, hb1⟩
        have hQ1 := hQ.below hb1
        have mS := m_swap g w1 _ hQ1.cell
        clear mL hQ
        go_wp2_with fail
        refine (swap_any b cap L' p j w1 hQ1.row (by omega) hj').mono ?_
        rintro e w2 ⟨rfl, hr, hk⟩
        have REL : Hid _ := (⟨p, swp L' p j, rfl, by have := HL.out; omega, (swp_perm (by omega) hj').trans hP, by have := ST.out (by rw [HP.out]; exact HB.out); rwa [HP.out] at this, hQ1.keep (swp_length _ _ _) hr hk, (hK.low hb1 hK.size).trans hk (fun _ _ h => h)⟩ : ∃ (j' : Nat) (L' : List En), Value.int .i64 (p : Int) = .int .i64 (j' : Int) ∧ j' < L.length ∧ L'.Perm L ∧ UpOk L' j' ∧ QR w2 g b cap L' ∧ Keep w w2 (· = b))
        clear mS
        go_wp2_with fail
        go_roundw
        case rel => exact REL.out
        case measure => simp [intOf]; omega
end Go.Proofs.Ytgimpolgagkffaa
