/- The walk of container/heap's down over a queue's row: what was a heap but for one that may go down is one. No condition but sizes. -/
import Derived.Test.YtgimpolgagkffaaUp
namespace Go.Proofs.Ytgimpolgagkffaa
open Go.RowKit

/-- What down has done so far, from L: the one that goes down is at i. -/
structure DnRel (L : List En) (n i0 g b cap : Nat) (w wr : World) (i : Nat) (L' : List En) : Prop where
  le : i0 ≤ i
  lt : i < n
  perm : L'.Perm L
  back : ∀ k, n ≤ k → nth L' k = nth L k
  ok : DnOk L' n i0 i
  q : QR wr g b cap L'
  keep : Keep w wr (· = b)

def IsBool (e : Ending) : Prop := ∃ r, e = .returned (.bool r)

/-- What down leaves. -/
structure DnEnd (L : List En) (n i0 g b cap : Nat) (w wr : World) (L' : List En) : Prop where
  perm : L'.Perm L
  back : ∀ k, n ≤ k → nth L' k = nth L k
  ok : HeapFrom L' n i0
  q : QR wr g b cap L'
  keep : Keep w wr (· = b)

theorem DnRel.low {L : List En} {n i0 g b cap : Nat} {w wr w' : World} {i : Nat} {L' : List En} (h : DnRel L n i0 g b cap w wr i L') (hb : Below wr.heap.size wr w') : DnRel L n i0 g b cap w w' i L' :=
  ⟨h.le, h.lt, h.perm, h.back, h.ok, h.q.below hb, h.keep.low hb h.keep.size⟩
theorem DnRel.done {L : List En} {n i0 g b cap : Nat} {w wr : World} {i : Nat} {L' : List En} (h : DnRel L n i0 g b cap w wr i L') (hd : ∀ k, 0 < k → k < n → (k - 1) / 2 = i → before (nth L' k) (nth L' i) = false) : DnEnd L n i0 g b cap w wr L' :=
  ⟨h.perm, h.back, h.ok.done hd, h.q, h.keep⟩
theorem DnRel.step {L : List En} {n i0 g b cap : Nat} {w wr w' : World} {i j : Nat} {L' : List En} (h : DnRel L n i0 g b cap w wr i L') (hn : n ≤ L.length) (hj : 0 < j) (hjn : j < n) (hp : (j - 1) / 2 = i) (hb : before (nth L' j) (nth L' i) = true)
    (hs : ∀ k, 0 < k → k < n → (k - 1) / 2 = i → before (nth L' k) (nth L' j) = false) (hr : Row w' b cap (swp L' i j)) (hk : Keep wr w' (· = b)) : DnRel L n i0 g b cap w w' j (swp L' i j) := by
  have hl := h.perm.length_eq
  have h1 := h.lt
  refine ⟨by have := h.le; omega, hjn, (swp_perm (by omega) (by omega)).trans h.perm, fun k hk' => ?_, h.ok.step h.le (by omega) hj hjn hp hb hs, h.q.keep (swp_length _ _ _) hr hk, h.keep.trans hk (fun _ _ h => h)⟩
  rw [nth_swp (by omega) (by omega), if_neg (by omega), if_neg (by omega)]
  exact h.back k hk'

set_option maxRecDepth 100000 in
set_option maxHeartbeats 4000000 in
theorem down_any (g b cap : Nat) (L : List En) (i0 n : Nat) (w : World) (hQ : QR w g b cap L) (hi : i0 < n ∨ n = 0 ∧ i0 = 0) (hn : n ≤ L.length) (hm : L.length ≤ 1000000) (hU : DnOk L n i0 i0) :
    Calls Try.prog 30 #[.iface 55 (.pointer (some ⟨g, 0, none⟩)), .int .i64 (i0 : Int), .int .i64 (n : Int)] w fun e w' => IsBool e ∧ ∃ L', DnEnd L n i0 g b cap w w' L' := by
  have e67 : ∀ args w, (callFunc 67 args).run Try.prog w = .ok (.enter 67 args) w := enter_of Try.func67 (by kernel_rfl) rfl
  have e68 : ∀ args w, (callFunc 68 args).run Try.prog w = .ok (.enter 68 args) w := enter_of Try.func68 (by kernel_rfl) rfl
  rcases hi with hi | ⟨rfl, rfl⟩
  · go_enter Try.func30, Try.ntmps30
    go_wp2_with fail
    go_loopw [7] (fun vi wr => ∃ (i : Nat) (L' : List En), vi = .int .i64 (i : Int) ∧ DnRel L n i0 g b cap w wr i L') (fun vi _ => n - (intOf vi).toNat)
    case atStart => exact ⟨i0, L, rfl, Nat.le_refl _, hi, List.Perm.refl _, fun _ _ => rfl, hU, hQ, Keep.refl _ _⟩
    case round =>
      clear hQ hU
      obtain ⟨i, L', rfl, hR⟩ := hrel
      have hl := hR.perm.length_eq
      have hin := hR.lt
      have hnl : n ≤ L'.length := by omega
      have HL : Hid _ := hl
      clear hl
      have h1 : (2 : Int) * (i : Int) + 1 = ((2 * i + 1 : Nat) : Int) := by omega
      obtain ⟨j, HJ⟩ : ∃ j, Hid (j = 2 * i + 1) := ⟨_, rfl⟩
      have hj1 : (2 : Int) * (i : Int) + 1 = (j : Int) := by rw [HJ.out]; exact h1
      have hji : i < j := by have := HJ.out; omega
      have hj9 : j ≤ 3000000 := by have := HJ.out; omega
      clear h1
      by_cases h1 : j < n
      · have mL := m_less g wr _ hR.q.cell
        by_cases h2 : j + 1 < n
        · obtain ⟨j2, HJ2⟩ : ∃ j2, Hid (j2 = j + 1) := ⟨_, rfl⟩
          have hj2 : (j : Int) + 1 = (j2 : Int) := by rw [HJ2.out]; omega
          have hjn2 : j2 < n := by rw [HJ2.out]; exact h2
          have hjj : j < j2 := by have := HJ2.out; omega
          clear h2
          cases hb : before (nth L' j2) (nth L' j) with
          | true =>
            have HB : Hid _ := hb
            clear hb
            have SB : Hid (∀ k, 0 < k → k < n → (k - 1) / 2 = i → before (nth L' k) (nth L' (j2)) = false ∨ k = j2) := (fun k k0 k1 k2 => (show k = j ∨ k = j2 by have := HJ.out; have := HJ2.out; omega).elim (fun e => by rw [e]; exact .inl (before_asymm HB.out)) (fun e => .inr e) : ∀ k, 0 < k → k < n → (k - 1) / 2 = i → before (nth L' k) (nth L' j2) = false ∨ k = j2)
            go_wp2_with fail
            refine (less_any b cap L' j2 j wr hR.q.row (by omega) (by omega)).mono ?_
            rw [HB.out]
            rintro e w1 ⟨rfl, hb1⟩
            have hR1 := hR.low hb1
            have mL1 := m_less g w1 _ hR1.q.cell
            clear mL hR
            have mL := mL1
            clear mL1
            cases hc : before (nth L' j2) (nth L' i) with
            | false =>
              have HC : Hid _ := hc
              clear hc
              go_wp2_with fail
              refine (less_any b cap L' j2 i w1 hR1.q.row (by omega) (by omega)).mono ?_
              rw [HC.out]
              rintro e w2 ⟨rfl, hb2⟩
              have FN : Hid (DnEnd L n i0 g b cap w w2 L') := (hR1.low hb2).done (fun k k0 k1 k2 => (SB.out k k0 k1 k2).elim (fun e => not_before_trans e HC.out) (fun e => by rw [e]; exact HC.out))
              clear mL hR1
              by_cases hgt : i0 < i
              · go_wp2_with fail
                go_ret
                exact ⟨⟨_, rfl⟩, L', FN.out⟩
              · go_wp2_with fail
                go_ret
                exact ⟨⟨_, rfl⟩, L', FN.out⟩
            | true =>
              have HC : Hid _ := hc
              clear hc
              go_wp2_with fail
              refine (less_any b cap L' j2 i w1 hR1.q.row (by omega) (by omega)).mono ?_
              rw [HC.out]
              rintro e w2 ⟨rfl, hb2⟩
              have hR2 := hR1.low hb2
              have mS := m_swap g w2 _ hR2.q.cell
              clear mL hR1
              go_wp2_with fail
              refine (swap_any b cap L' i j2 w2 hR2.q.row (by omega) (by omega)).mono ?_
              rintro e w3 ⟨rfl, hr, hk⟩
              have REL : Hid (DnRel L n i0 g b cap w w3 j2 (swp L' i j2)) := hR2.step hn (by omega) (by omega) (by have := HJ.out; have := HJ2.out; omega) HC.out (fun k k0 k1 k2 => (SB.out k k0 k1 k2).elim id (fun e => by rw [e]; exact not_before_self _)) hr hk
              clear mS hR2 hr hk
              go_wp2_with fail
              go_roundw
              case rel => exact ⟨j2, _, rfl, REL.out⟩
              case measure => simp [intOf]; omega
          | false =>
            have HB : Hid _ := hb
            clear hb
            have SB : Hid (∀ k, 0 < k → k < n → (k - 1) / 2 = i → before (nth L' k) (nth L' (j)) = false ∨ k = j) := (fun k k0 k1 k2 => (show k = j ∨ k = j2 by have := HJ.out; have := HJ2.out; omega).elim (fun e => .inr e) (fun e => by rw [e]; exact .inl HB.out) : ∀ k, 0 < k → k < n → (k - 1) / 2 = i → before (nth L' k) (nth L' j) = false ∨ k = j)
            go_wp2_with fail
            refine (less_any b cap L' j2 j wr hR.q.row (by omega) (by omega)).mono ?_
            rw [HB.out]
            rintro e w1 ⟨rfl, hb1⟩
            have hR1 := hR.low hb1
            have mL1 := m_less g w1 _ hR1.q.cell
            clear mL hR
            have mL := mL1
            clear mL1
            cases hc : before (nth L' j) (nth L' i) with
            | false =>
              have HC : Hid _ := hc
              clear hc
              go_wp2_with fail
              refine (less_any b cap L' j i w1 hR1.q.row (by omega) (by omega)).mono ?_
              rw [HC.out]
              rintro e w2 ⟨rfl, hb2⟩
              have FN : Hid (DnEnd L n i0 g b cap w w2 L') := (hR1.low hb2).done (fun k k0 k1 k2 => (SB.out k k0 k1 k2).elim (fun e => not_before_trans e HC.out) (fun e => by rw [e]; exact HC.out))
              clear mL hR1
              by_cases hgt : i0 < i
              · go_wp2_with fail
                go_ret
                exact ⟨⟨_, rfl⟩, L', FN.out⟩
              · go_wp2_with fail
                go_ret
                exact ⟨⟨_, rfl⟩, L', FN.out⟩
            | true =>
              have HC : Hid _ := hc
              clear hc
              go_wp2_with fail
              refine (less_any b cap L' j i w1 hR1.q.row (by omega) (by omega)).mono ?_
              rw [HC.out]
              rintro e w2 ⟨rfl, hb2⟩
              have hR2 := hR1.low hb2
              have mS := m_swap g w2 _ hR2.q.cell
              clear mL hR1
              go_wp2_with fail
              refine (swap_any b cap L' i j w2 hR2.q.row (by omega) (by omega)).mono ?_
              rintro e w3 ⟨rfl, hr, hk⟩
              have REL : Hid (DnRel L n i0 g b cap w w3 j (swp L' i j)) := hR2.step hn (by omega) (by omega) (by have := HJ.out; omega) HC.out (fun k k0 k1 k2 => (SB.out k k0 k1 k2).elim id (fun e => by rw [e]; exact not_before_self _)) hr hk
              clear mS hR2 hr hk
              go_wp2_with fail
              go_roundw
              case rel => exact ⟨j, _, rfl, REL.out⟩
              case measure => simp [intOf]; omega
        · have h2' : ¬ (j : Int) + 1 < (n : Int) := by omega
          have hR1 := hR
          have SB : Hid (∀ k, 0 < k → k < n → (k - 1) / 2 = i → before (nth L' k) (nth L' j) = false ∨ k = j) := (fun k k0 k1 k2 => .inr (by have := HJ.out; omega))
          cases hc : before (nth L' j) (nth L' i) with
          | false =>
            have HC : Hid _ := hc
            clear hc
            go_wp2_with fail
            refine (less_any b cap L' j i wr hR1.q.row (by omega) (by omega)).mono ?_
            rw [HC.out]
            rintro e w2 ⟨rfl, hb2⟩
            have FN : Hid (DnEnd L n i0 g b cap w w2 L') := (hR1.low hb2).done (fun k k0 k1 k2 => (SB.out k k0 k1 k2).elim (fun e => not_before_trans e HC.out) (fun e => by rw [e]; exact HC.out))
            clear mL hR hR1
            by_cases hgt : i0 < i
            · go_wp2_with fail
              go_ret
              exact ⟨⟨_, rfl⟩, L', FN.out⟩
            · go_wp2_with fail
              go_ret
              exact ⟨⟨_, rfl⟩, L', FN.out⟩
          | true =>
            have HC : Hid _ := hc
            clear hc
            go_wp2_with fail
            refine (less_any b cap L' j i wr hR1.q.row (by omega) (by omega)).mono ?_
            rw [HC.out]
            rintro e w2 ⟨rfl, hb2⟩
            have hR2 := hR1.low hb2
            have mS := m_swap g w2 _ hR2.q.cell
            clear mL hR hR1
            go_wp2_with fail
            refine (swap_any b cap L' i j w2 hR2.q.row (by omega) (by omega)).mono ?_
            rintro e w3 ⟨rfl, hr, hk⟩
            have REL : Hid (DnRel L n i0 g b cap w w3 j (swp L' i j)) := hR2.step hn (by omega) (by omega) (by have := HJ.out; omega) HC.out (fun k k0 k1 k2 => (SB.out k k0 k1 k2).elim id (fun e => by rw [e]; exact not_before_self _)) hr hk
            clear mS hR2 hr hk
            go_wp2_with fail
            go_roundw
            case rel => exact ⟨j, _, rfl, REL.out⟩
            case measure => simp [intOf]; omega
      · have FIN := hR.done (fun k k0 k1 k2 => by have := HJ.out; omega)
        have FN : Hid (DnEnd L n i0 g b cap w wr L') := FIN
        clear FIN hR
        have hnj : ¬ (j : Int) < (n : Int) := by omega
        by_cases hgt : i0 < i
        · go_wp2_with fail
          go_ret
          exact ⟨⟨_, rfl⟩, L', FN.out⟩
        · go_wp2_with fail
          go_ret
          exact ⟨⟨_, rfl⟩, L', FN.out⟩
  · have FN : Hid (DnEnd L 0 0 g b cap w w L) := ⟨List.Perm.refl _, fun _ _ => rfl, fun k h0 h1 => by omega, hQ, Keep.refl _ _⟩
    clear hQ hU
    go_enter Try.func30, Try.ntmps30
    go_wp2_with fail
    go_loopw [7] (fun vi wr => vi = .int .i64 0 ∧ wr = w) (fun _ _ => 0)
    case atStart => exact ⟨rfl, rfl⟩
    case round =>
      obtain ⟨rfl, rfl⟩ := hrel
      go_wp2_with fail
      go_ret
      exact ⟨⟨_, rfl⟩, L, FN.out⟩
end Go.Proofs.Ytgimpolgagkffaa
