/- DigestCuts, the walk. -/
import Derived.Test.YtpibpjbeedcefaaDoorCut
namespace Go.Proofs.YtpibpjbeedcefaaDoor
open Go.RowKit

theorem equalIn_same (w : World) (bs : List UInt8) (hl : bs.length = 32) : (Op.equalIn 10000 27 (.agg (bs.map bval).toArray) (.agg (bs.map bval).toArray)).run Tryd.prog w = .ok true w := by
  obtain ⟨i5, hi, _, _, _⟩ := info_parts Tryd.info5
  rw [run_equalIn_array w 9999 _ _ Tryd.underlying27 hi, Tryd.cells5, eqItems_same w 9998 bs _ (by intro i hi; rw [hl]; simpa using hi)]

theorem parts_one {w : World} {ao : Option Addr} {n cap : Nat} {bs : List UInt8} (h : Rd w ao n cap bs) : Parts (w.alloc (.cells #[.slice ao n cap] 23)) (w.alloc (.cells #[.slice ao n cap] 23)).heap.size (some ⟨w.heap.size, 0, none⟩) 1 1 [bs] := by
  have hr := h.alloc (.cells #[.slice ao n cap] 23)
  refine parts_cells (cap := 1) (Blk.new w 23 [.slice ao n cap]) (by simp) rfl (Nat.le_refl _) (by decide) (fun i hi => ?_)
  match i, hi with
  | 0, _ => exact part_of hr hr.lowSize

theorem sum_one (ao : Option Addr) (n cap : Nat) (bs : List UInt8) (w : World) (h : Rd w ao n cap bs) (hk : Keys w) (hn : n ≤ 1099511627776) :
    Calls Tryd.prog 10 #[.slice (some ⟨w.heap.size, 0, none⟩) 1 1] (w.alloc (.cells #[.slice ao n cap] 23)) fun e w' => e = .returned (.agg ((sha bs).map bval).toArray) ∧ Below w.heap.size w w' := by
  have := sum_any _ 1 1 [bs] _ (parts_one h) (hk.alloc _) (by decide) (by simp [h.len]; exact hn)
  refine this.mono ?_
  rintro e w' ⟨rfl, hb⟩
  refine ⟨by simp, ?_⟩
  exact ((Below.refl w.heap.size w).alloc (Nat.le_refl _) _).trans (hb.mono (by simp))

set_option maxRecDepth 100000 in
set_option maxHeartbeats 1000000 in
theorem cuts_walk (ao : Option Addr) (n cap : Nat) (bs : List UInt8) (so : Option Addr) (m scap : Nat) (zs : List Int) (w : World) (h : Rd w ao n cap bs) (hz : RdI w so m scap zs) (hk : Keys w) :
    Calls Tryd.prog 4 #[.slice ao n cap, .slice so m scap] w fun e w' => e = .returned (.bool true) ∧ Below w.heap.size w w' := by
  have hle := h.le
  have hmx := h.max
  unfold maxLen at hmx
  have hzle := hz.le
  have hzmx := hz.max
  unfold maxLen at hzmx
  have hlt := hk.lt
  go_enter Tryd.func4, Tryd.ntmps4
  go_wp2_with fail
  refine (begun_any w hk).mono ?_
  rintro e w1 ⟨rfl, hb1⟩
  have h1 := h.below hb1 (Nat.le_refl _)
  have hz1 := hz.below hb1 (Nat.le_refl _)
  have hk1 := hk.below hb1 hlt
  clear h hz hk
  by_cases hbig : 4000 < n
  · go_wp2_with fail
    go_ret
    exact ⟨rfl, hb1⟩
  · by_cases hbig2 : 100 < m
    · go_wp2_with fail
      go_ret
      exact ⟨rfl, hb1⟩
    · go_wp2_with fail
      refine (cut_any ao n cap bs so m scap zs w1 h1 hz1 (by omega) (by omega)).mono ?_
      rintro e w2 ⟨ao', n', cap', ls, rfl, hP, HE, hn', hb2⟩
      have hk2 := hk1.below hb2 hk1.lt
      have hB2 := hb1.trans (hb2.mono hb1.size)
      have h2 := h1.below hb2 (Nat.le_refl _)
      go_wp2_with fail
      refine (sum_any ao' n' cap' ls w2 hP hk2 (by omega) (by rw [HE, h1.len]; omega)).mono ?_
      rintro e w3 ⟨rfl, hb3⟩
      rw [HE]
      have hk3 := hk2.below hb3 hk2.lt
      have hB3 := hB2.trans (hb3.mono hB2.size)
      have h3 := h2.below hb3 (Nat.le_refl _)
      clear HE hP h2 h1 hk2 hk1 hz1
      go_wp2_with fail
      refine (sum_one ao n cap bs w3 h3 hk3 (by omega)).mono ?_
      rintro e w4 ⟨rfl, hb4⟩
      have heq := fun w => eql_same w (sha bs) (sha_length bs)
      have heq2 := fun w => equalIn_same w (sha bs) (sha_length bs)
      generalize (sha bs).map bval = cs at heq heq2 ⊢
      go_wp2_with fail
      go_ret
      exact ⟨rfl, hB3.trans (hb4.mono hB3.size)⟩
end Go.Proofs.YtpibpjbeedcefaaDoor
