/- Plain facts on bytes that come one by one. No condition. -/
import Derived.Test.YtbbfjfmcmckdmaaPlain
namespace Go.Proofs.Ytbbfjfmcmckdmaa
open Go.RowKit

theorem tv_short (a b : List UInt8) : ∀ (i acc : Nat), (tv i acc a).2.2 = 2 → (tv i acc (a ++ b)).2.2 = 0 → i + a.length < (tv i acc (a ++ b)).2.1 := by
  induction a with
  | nil => intro i acc _ h; exact tv_ok b i acc h
  | cons c r ih =>
    intro i acc h h'
    rw [List.cons_append, tv] at h' ⊢
    rw [tv] at h
    by_cases h1 : i = 9 ∧ 1 < c.toNat
    · rw [if_pos h1] at h; simp at h
    · rw [if_neg h1] at h h' ⊢
      by_cases h2 : 128 ≤ c.toNat
      · rw [if_pos h2] at h h' ⊢
        have := ih _ _ h h'
        rw [List.length_cons]
        omega
      · rw [if_neg h2] at h
        by_cases h3 : c.toNat = 0 ∧ 0 < i
        · rw [if_pos h3] at h; simp at h
        · rw [if_neg h3] at h; simp at h

/-- A frame that was not whole is whole not before its last byte. -/
theorem t1_late (a b : List UInt8) (h : (t1 a).2.2 = 2) (h' : (t1 (a ++ b)).2.2 = 0) : a.length < (t1 (a ++ b)).2.1 := by
  have hok : (tv 0 0 (a ++ b)).2.2 = 0 ∧ (t1 (a ++ b)).2.1 = (tv 0 0 (a ++ b)).2.1 + (tv 0 0 (a ++ b)).1 ∧ ¬ 65536 < (tv 0 0 (a ++ b)).1 := by
    rw [t1_eq] at h' ⊢
    by_cases h1 : (tv 0 0 (a ++ b)).2.2 ≠ 0
    · rw [if_pos h1] at h'; exact absurd h' h1
    · rw [if_neg h1] at h' ⊢
      by_cases h2 : 65536 < (tv 0 0 (a ++ b)).1
      · rw [if_pos h2] at h'; simp at h'
      · rw [if_neg h2] at h' ⊢
        by_cases h3 : (a ++ b).length - (tv 0 0 (a ++ b)).2.1 < (tv 0 0 (a ++ b)).1
        · rw [if_pos h3] at h'; simp at h'
        · rw [if_neg h3]
          exact ⟨by omega, rfl, h2⟩
  obtain ⟨h0, h1, h2⟩ := hok
  rw [h1]
  by_cases hs : (tv 0 0 a).2.2 = 2
  · have := tv_short a b 0 0 hs h0
    omega
  · have hm := tv_more a b 0 0 hs
    rw [hm] at h0 h2 ⊢
    rw [t1_eq, if_neg (by omega), if_neg h2] at h
    by_cases h3 : a.length - (tv 0 0 a).2.1 < (tv 0 0 a).1
    · omega
    · rw [if_neg h3] at h; simp at h

/-- One byte more: nothing comes, or one frame that leaves nothing, or an error. -/
theorem rd_byte (ws : List UInt8) (x : UInt8) (h : (t1 ws).2.2 = 2) : (rd (ws ++ [x]) = ([], ws ++ [x], (rd (ws ++ [x])).2.2)) ∨ (∃ t, rd (ws ++ [x]) = ([t], [], 2)) := by
  by_cases h0 : (t1 (ws ++ [x])).2.2 = 0
  · refine .inr ⟨(t1 (ws ++ [x])).1, ?_⟩
    have h1 := t1_late ws [x] h h0
    rw [rd_ok _ h0, List.drop_eq_nil_of_le (by rw [List.length_append, List.length_singleton]; omega), rd_nil]
  · refine .inl ?_
    rw [rd_end _ h0]

theorem allS_stop (a b : List UInt8) (h : (allS a).2 ≠ 0) : allS (a ++ b) = allS a ∧ (rd (a ++ b)).1 = (rd a).1 := by
  have hp := allS_put a b
  have h1 : putS (allS a) b = allS a := by unfold putS; rw [if_neg h]
  have h2 : putF (allS a) b = [] := by unfold putF; rw [if_neg h]
  rw [h1, h2] at hp
  exact ⟨hp.1.symm, by rw [hp.2.1]; simp⟩

theorem allS_first (b : List UInt8) : putS ([], 0) b = allS b ∧ putF ([], 0) b = (rd b).1 ∧ putE ([], 0) b = (allS b).2 := by
  have := allS_put [] b
  rw [allS_nil, rd_nil] at this
  simp only [List.nil_append] at this
  exact ⟨this.1, this.2.1.symm, this.2.2⟩

/-- What Put of one byte tells, and what waits then. -/
theorem put_byte (a : List UInt8) (x : UInt8) (h : (allS a).2 = 0) : ∃ fs, putF (allS a) [x] = fs ∧ (rd (a ++ [x])).1 = (rd a).1 ++ fs ∧ putE (allS a) [x] = (allS (a ++ [x])).2 ∧ putS (allS a) [x] = allS (a ++ [x]) ∧ fs.length ≤ 1 ∧
    ((allS (a ++ [x])).2 = 0 → (fs = [] ∧ (allS (a ++ [x])).1.length = (allS a).1.length + 1) ∨ (fs.length = 1 ∧ (allS (a ++ [x])).1.length = 0)) := by
  obtain ⟨h1, h2⟩ := allS_wait a h
  obtain ⟨p1, p2, p3⟩ := allS_put a [x]
  refine ⟨_, rfl, p2, p3, p1, ?_⟩
  have hr := (rd_rest a).1
  rw [h2] at hr
  rw [← p1, h1]
  rcases rd_byte (rd a).2.1 x hr with hb | ⟨t, hb⟩
  · unfold putF putS
    simp only [if_true]
    rw [hb]
    refine ⟨by simp, fun h0 => .inl ⟨rfl, ?_⟩⟩
    simp only at h0 ⊢
    by_cases he : (rd ((rd a).2.1 ++ [x])).2.2 = 2
    · rw [if_pos he]; simp
    · rw [if_neg he] at h0
      exact absurd h0 (rd_err _).1
  · unfold putF putS
    simp only [if_true]
    rw [hb]
    exact ⟨by simp, fun _ => .inr ⟨rfl, rfl⟩⟩

theorem rd_count (bs : List UInt8) : (rd bs).1.length + (rd bs).2.1.length ≤ bs.length := by
  induction hn : bs.length using Nat.strongRecOn generalizing bs with
  | _ n ih =>
    by_cases h : (t1 bs).2.2 = 0
    · have hp := t1_pos bs h
      have := ih _ (by rw [← hn, List.length_drop]; omega) (bs.drop (t1 bs).2.1) rfl
      rw [List.length_drop] at this
      rw [rd_ok bs h, List.length_cons]
      simp only
      omega
    · rw [rd_end bs h]
      simp only [List.length_nil]
      omega
theorem allS_len (bs : List UInt8) : (allS bs).1.length ≤ bs.length := by
  have := rd_count bs
  unfold allS
  split
  · simp only; omega
  · simp
theorem allS_err (bs : List UInt8) : (allS bs).2 ≤ 5 := by
  have := (rd_err bs).2
  unfold allS
  split
  · simp
  · exact this
end Go.Proofs.Ytbbfjfmcmckdmaa
