/- The walk of the law's begun: it answers true. No condition but that the tables hold what the program's text lays. -/
import Derived.Test.YtahfaeamjbcepaaGreatDoorBg
import Derived.Test.YtahfaeamjbcepaaGreatDoorRl
namespace Go.Proofs.YtahfaeamjbcepaaGreatDoor
open Go.RowKit

theorem asc_ab : Asc [[97], [98]] := by
  unfold Asc
  simp only [List.pairwise_cons, List.mem_singleton, forall_eq, List.not_mem_nil, false_implies, implies_true, List.Pairwise.nil, and_self, and_true]
  decide

theorem srt_bab : srt ([[98], [97]] ++ [[98]]) = [[97], [98]] :=
  srt_of_asc asc_ab (fun x => by
    constructor
    · intro h; simp at h; rcases h with h | h <;> simp [h]
    · intro h; simp at h; rcases h with h | h <;> simp [h])

theorem blk_SR {w : World} {g : Nat} {e : TypeId} {ss : List (List UInt8)} {n : Nat} (h : Blk w g e (ss.map tx)) (hn : ss.length = n) (hm : n ≤ maxLen) : SR w (some ⟨g, 0, none⟩) n n ss :=
  ⟨hn, Nat.le_refl _, hm, fun j s hj => ⟨g, 0, rfl, h.lt, by rw [Nat.zero_add]; exact h.cell (by simp [hj])⟩⟩

set_option maxRecDepth 100000 in
theorem begun_any (w : World) (hT : Tabs w) : Calls Tryz.prog 5 #[] w fun e w' => e = .returned (.bool true) ∧ Below w.heap.size w w' := by
  obtain ⟨w1, HW1, hb1, P1, Q1, hs1⟩ := two_new w [.string ⟨#[98]⟩, .string ⟨#[97]⟩] [.string ⟨#[98]⟩] 9 9
  have R1 : SR w1 (some ⟨w.heap.size, 0, none⟩) 2 2 [[98], [97]] := blk_SR (ss := [[98], [97]]) (e := 9) P1 rfl (by unfold maxLen; omega)
  have R2 : SR w1 (some ⟨w.heap.size + 1, 0, none⟩) 1 1 [[98]] := blk_SR (ss := [[98]]) (e := 9) Q1 rfl (by unfold maxLen; omega)
  have h8 := join_any _ _ _ _ _ _ _ _ w1 R1 R2 (by omega) (by omega) (by simp) (by simp)
  rw [srt_bab] at h8
  have T1 := hT.on hb1
  have HW : Hid ((w.alloc (.cells #[.string ⟨#[98]⟩, .string ⟨#[97]⟩] 9)).alloc (.cells #[.string ⟨#[98]⟩] 9) = w1) := HW1
  clear HW1 P1 Q1 R1 R2
  have n1 : nmB [97, 46, 98] = true := by decide
  have n2 : nmB [49, 97] = false := by decide
  have n3 : decide (Lib.compareBytes [97] [97, 98] < 0) = true := by decide
  have n4 : decide (([98] : List UInt8) ∈ ([[97], [98]] : List (List UInt8))) = true := by decide
  have hasc := asc_ab
  go_enter Tryz.func5, Tryz.ntmps5
  go_wp2_with (first
    | (go_at_call 8; rw [HW.out]; refine h8.mono ?_; rintro e w2 ⟨g, rfl, hg2, B2, b2⟩; have hz2 := b2.size; have T2 := T1.on b2; have hg2' := B2.lt; clear T1)
    | (go_at_call 11; have h11 := may_name [97, 46, 98] w2 T2 (by simp); rw [n1] at h11; unfold tx at h11; with_reducible refine h11.mono ?_; rintro e w3 ⟨rfl, b3⟩; have hz3 := b3.size; have T3 := T2.on b3; have B3 := B2.below b3 hg2')
    | (go_at_call 11; have h11 := may_name [49, 97] w3 T3 (by simp); rw [n2] at h11; unfold tx at h11; with_reducible refine h11.mono ?_; rintro e w4 ⟨rfl, b4⟩; have hz4 := b4.size; have B4 := B3.below b4 (by omega))
    | (go_at_call 15; have h15 := less_any [97] [97, 98] w4; rw [n3] at h15; unfold tx at h15; refine h15.mono ?_; rintro e w5 ⟨rfl, rfl⟩; have c0 := B4.cell (j := 0) rfl; unfold tx at c0)
    | (go_at_call 13; have h13 := has_any _ _ _ _ [98] w4 (blk_SR B4 rfl (by unfold maxLen; decide)) hasc (by decide); rw [n4] at h13; unfold tx at h13; refine h13.mono ?_; rintro e w6 ⟨rfl, b6⟩))
  go_ret
  exact ⟨rfl, (((hb1.trans (b2.mono (by omega))).trans (b3.mono (by omega))).trans (b4.mono (by omega))).trans (b6.mono (by omega))⟩
end Go.Proofs.YtahfaeamjbcepaaGreatDoor
