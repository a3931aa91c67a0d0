/- Plain facts on the frames that bytes are: what more bytes turn, and what they do not. No condition. -/
import Derived.Test.YtbbfjfmcmckdmaaText
namespace Go.Proofs.Ytbbfjfmcmckdmaa
open Go.RowKit

theorem tv_more (a b : List UInt8) : ∀ (i acc : Nat), (tv i acc a).2.2 ≠ 2 → tv i acc (a ++ b) = tv i acc a := by
  induction a with
  | nil => intro i acc h; exact absurd rfl h
  | cons c r ih =>
    intro i acc h
    rw [List.cons_append, tv, tv]
    rw [tv] at h
    by_cases h1 : i = 9 ∧ 1 < c.toNat
    · rw [if_pos h1, if_pos h1]
    · rw [if_neg h1] at h ⊢
      rw [if_neg h1]
      by_cases h2 : 128 ≤ c.toNat
      · rw [if_pos h2] at h ⊢
        rw [if_pos h2]
        exact ih _ _ h
      · rw [if_neg h2, if_neg h2]

theorem tv_ok (l : List UInt8) : ∀ (i acc : Nat), (tv i acc l).2.2 = 0 → i < (tv i acc l).2.1 := by
  induction l with
  | nil => intro i acc h; simp [tv] at h
  | cons c r ih =>
    intro i acc h
    rw [tv] at h ⊢
    by_cases h1 : i = 9 ∧ 1 < c.toNat
    · rw [if_pos h1] at h; simp at h
    · rw [if_neg h1] at h ⊢
      by_cases h2 : 128 ≤ c.toNat
      · rw [if_pos h2] at h ⊢
        have := ih _ _ h
        omega
      · rw [if_neg h2] at h ⊢
        by_cases h3 : c.toNat = 0 ∧ 0 < i
        · rw [if_pos h3] at h; simp at h
        · rw [if_neg h3]; simp

theorem tv_le (l : List UInt8) (_h : (tv 0 0 l).2.2 = 0) : (tv 0 0 l).2.1 ≤ l.length := by
  have := (tv_bounds l 0 0 (by omega) (by decide)).2.1
  omega

/-- The first frame. -/
def t1 (bs : List UInt8) : List UInt8 × Nat × Nat := tt bs 65536

theorem t1_eq (bs : List UInt8) : t1 bs = if (tv 0 0 bs).2.2 ≠ 0 then ([], 0, (tv 0 0 bs).2.2) else if 65536 < (tv 0 0 bs).1 then ([], 0, 3) else if bs.length - (tv 0 0 bs).2.1 < (tv 0 0 bs).1 then ([], 0, 2) else ((bs.drop (tv 0 0 bs).2.1).take (tv 0 0 bs).1, (tv 0 0 bs).2.1 + (tv 0 0 bs).1, 0) := rfl

theorem t1_pos (bs : List UInt8) (h : (t1 bs).2.2 = 0) : 0 < (t1 bs).2.1 ∧ (t1 bs).2.1 ≤ bs.length := by
  rw [t1_eq] at h ⊢
  by_cases h1 : (tv 0 0 bs).2.2 ≠ 0
  · rw [if_pos h1] at h; exact absurd h h1
  · rw [if_neg h1] at h ⊢
    have h0 : (tv 0 0 bs).2.2 = 0 := by omega
    have hp := tv_ok bs 0 0 h0
    have hq := tv_le bs h0
    by_cases h2 : 65536 < (tv 0 0 bs).1
    · rw [if_pos h2] at h; simp at h
    · rw [if_neg h2] at h ⊢
      by_cases h3 : bs.length - (tv 0 0 bs).2.1 < (tv 0 0 bs).1
      · rw [if_pos h3] at h; simp at h
      · rw [if_neg h3]
        simp only
        omega

theorem t1_none (bs : List UInt8) (h : (t1 bs).2.2 ≠ 0) : (t1 bs).1 = [] ∧ (t1 bs).2.1 = 0 := by
  rw [t1_eq] at h ⊢
  by_cases h1 : (tv 0 0 bs).2.2 ≠ 0
  · rw [if_pos h1]; exact ⟨rfl, rfl⟩
  · rw [if_neg h1] at h ⊢
    by_cases h2 : 65536 < (tv 0 0 bs).1
    · rw [if_pos h2]; exact ⟨rfl, rfl⟩
    · rw [if_neg h2] at h ⊢
      by_cases h3 : bs.length - (tv 0 0 bs).2.1 < (tv 0 0 bs).1
      · rw [if_pos h3]; exact ⟨rfl, rfl⟩
      · rw [if_neg h3] at h; exact absurd rfl h

theorem t1_err (bs : List UInt8) : (t1 bs).2.2 ≤ 5 := by
  have := (tv_bounds bs 0 0 (by omega) (by decide)).2.2
  rw [t1_eq]
  split
  · exact this
  · split
    · simp
    · split <;> simp

theorem t1_more (a b : List UInt8) (h : (t1 a).2.2 ≠ 2) : t1 (a ++ b) = t1 a := by
  rw [t1_eq] at h
  by_cases h1 : (tv 0 0 a).2.2 ≠ 0
  · rw [if_pos h1] at h
    rw [t1_eq, t1_eq, tv_more a b 0 0 h, if_pos h1, if_pos h1]
  · rw [if_neg h1] at h
    have h0 : (tv 0 0 a).2.2 = 0 := by omega
    have hq := tv_le a h0
    rw [t1_eq, t1_eq, tv_more a b 0 0 (by omega), if_neg h1, if_neg h1]
    by_cases h2 : 65536 < (tv 0 0 a).1
    · rw [if_pos h2, if_pos h2]
    · rw [if_neg h2] at h
      rw [if_neg h2, if_neg h2]
      by_cases h3 : a.length - (tv 0 0 a).2.1 < (tv 0 0 a).1
      · rw [if_pos h3] at h; exact absurd rfl h
      · rw [if_neg h3, if_neg (by rw [List.length_append]; omega), List.drop_append_of_le_length hq, List.take_append_of_le_length (by rw [List.length_drop]; omega)]

/-- All frames that bytes begin with, what is left, and why no more comes (2: more bytes may). -/
def rd (bs : List UInt8) : List (List UInt8) × List UInt8 × Nat :=
  if _h : (t1 bs).2.2 = 0 then ((t1 bs).1 :: (rd (bs.drop (t1 bs).2.1)).1, (rd (bs.drop (t1 bs).2.1)).2) else ([], bs, (t1 bs).2.2)
termination_by bs.length
decreasing_by all_goals (have := t1_pos bs _h; rw [List.length_drop]; omega)

theorem rd_ok (bs : List UInt8) (h : (t1 bs).2.2 = 0) : rd bs = ((t1 bs).1 :: (rd (bs.drop (t1 bs).2.1)).1, (rd (bs.drop (t1 bs).2.1)).2) := by
  conv => lhs; rw [rd]
  rw [dif_pos h]
theorem rd_end (bs : List UInt8) (h : (t1 bs).2.2 ≠ 0) : rd bs = ([], bs, (t1 bs).2.2) := by
  rw [rd, dif_neg h]

theorem rd_at {bs t : List UInt8} {n : Nat} (h : t1 bs = (t, n, 0)) : rd bs = (t :: (rd (bs.drop n)).1, (rd (bs.drop n)).2) := by
  have := rd_ok bs (by rw [h])
  rw [h] at this
  exact this
theorem rd_stop {bs t : List UInt8} {n e : Nat} (h : t1 bs = (t, n, e)) (he : e ≠ 0) : rd bs = ([], bs, e) := by
  have := rd_end bs (by rw [h]; exact he)
  rw [h] at this
  exact this

theorem rd_err (bs : List UInt8) : (rd bs).2.2 ≠ 0 ∧ (rd bs).2.2 ≤ 5 := by
  induction hn : bs.length using Nat.strongRecOn generalizing bs with
  | _ n ih =>
    by_cases h : (t1 bs).2.2 = 0
    · have hp := t1_pos bs h
      rw [rd_ok bs h]
      exact ih _ (by rw [← hn, List.length_drop]; omega) _ rfl
    · rw [rd_end bs h]
      exact ⟨h, t1_err bs⟩

/-- What is left begins no frame. -/
theorem rd_rest (bs : List UInt8) : (t1 (rd bs).2.1).2.2 = (rd bs).2.2 ∧ (rd bs).2.1.length ≤ bs.length := by
  induction hn : bs.length using Nat.strongRecOn generalizing bs with
  | _ n ih =>
    by_cases h : (t1 bs).2.2 = 0
    · have hp := t1_pos bs h
      have := ih _ (by rw [← hn, List.length_drop]; omega) (bs.drop (t1 bs).2.1) rfl
      rw [rd_ok bs h]
      refine ⟨this.1, ?_⟩
      have h2 := this.2
      rw [List.length_drop] at h2
      simp only
      omega
    · rw [rd_end bs h]
      exact ⟨rfl, by simp only; omega⟩

/-- More bytes: what was told stays told. -/
theorem rd_more (a b : List UInt8) : (rd a).2.2 = 2 → rd (a ++ b) = ((rd a).1 ++ (rd ((rd a).2.1 ++ b)).1, (rd ((rd a).2.1 ++ b)).2) := by
  induction hn : a.length using Nat.strongRecOn generalizing a with
  | _ n ih =>
    intro h2
    by_cases h : (t1 a).2.2 = 0
    · have hp := t1_pos a h
      have hm := t1_more a b (by omega)
      rw [rd_ok a h] at h2 ⊢
      have := ih _ (by rw [← hn, List.length_drop]; omega) (a.drop (t1 a).2.1) rfl h2
      rw [rd_ok (a ++ b) (by rw [hm]; exact h), hm, List.drop_append_of_le_length hp.2, this]
      rfl
    · rw [rd_end a h]
      simp

theorem rd_bad (a b : List UInt8) : (rd a).2.2 ≠ 2 → (rd (a ++ b)).1 = (rd a).1 ∧ (rd (a ++ b)).2.2 = (rd a).2.2 := by
  induction hn : a.length using Nat.strongRecOn generalizing a with
  | _ n ih =>
    intro h2
    by_cases h : (t1 a).2.2 = 0
    · have hp := t1_pos a h
      have hm := t1_more a b (by omega)
      rw [rd_ok a h] at h2 ⊢
      have := ih _ (by rw [← hn, List.length_drop]; omega) (a.drop (t1 a).2.1) rfl h2
      rw [rd_ok (a ++ b) (by rw [hm]; exact h), hm, List.drop_append_of_le_length hp.2]
      exact ⟨by simp only; rw [this.1], this.2⟩
    · have h3 := h2
      rw [rd_end a h] at h3 ⊢
      have hm := t1_more a b h3
      rw [rd_end (a ++ b) (by rw [hm]; exact h), hm]
      exact ⟨rfl, rfl⟩

theorem rd_nil : rd [] = ([], [], 2) := rd_stop (bs := []) (t := []) (n := 0) rfl (by decide)

/-- A Reader: what waits, and its error. -/
abbrev RS := List UInt8 × Nat
def putF (s : RS) (bs : List UInt8) : List (List UInt8) := if s.2 = 0 then (rd (s.1 ++ bs)).1 else []
def putE (s : RS) (bs : List UInt8) : Nat := if s.2 = 0 then (if (rd (s.1 ++ bs)).2.2 = 2 then 0 else (rd (s.1 ++ bs)).2.2) else s.2
def putS (s : RS) (bs : List UInt8) : RS := if s.2 = 0 then (if (rd (s.1 ++ bs)).2.2 = 2 then ((rd (s.1 ++ bs)).2.1, 0) else ([], (rd (s.1 ++ bs)).2.2)) else s

/-- What a Reader has come to behind all bytes. -/
def allS (bs : List UInt8) : RS := if (rd bs).2.2 = 2 then ((rd bs).2.1, 0) else ([], (rd bs).2.2)
theorem allS_nil : allS [] = ([], 0) := by unfold allS; rw [rd_nil]; rfl
theorem allS_put (a b : List UInt8) : putS (allS a) b = allS (a ++ b) ∧ (rd (a ++ b)).1 = (rd a).1 ++ putF (allS a) b ∧ putE (allS a) b = (allS (a ++ b)).2 := by
  by_cases h : (rd a).2.2 = 2
  · have e : allS a = ((rd a).2.1, 0) := by unfold allS; rw [if_pos h]
    have hm := rd_more a b h
    rw [e]
    unfold putS putF putE allS
    rw [hm]
    simp only [if_pos]
    refine ⟨trivial, trivial, ?_⟩
    split <;> rfl
  · have e : allS a = ([], (rd a).2.2) := by unfold allS; rw [if_neg h]
    have hb := rd_bad a b h
    have he := rd_err a
    rw [e]
    unfold putS putF putE allS
    simp only
    rw [if_neg he.1, if_neg he.1, if_neg he.1, hb.1, hb.2, if_neg h]
    exact ⟨rfl, by simp, rfl⟩
theorem allS_wait (a : List UInt8) (h : (allS a).2 = 0) : allS a = ((rd a).2.1, 0) ∧ (rd a).2.2 = 2 := by
  unfold allS at h ⊢
  by_cases h2 : (rd a).2.2 = 2
  · rw [if_pos h2]; exact ⟨rfl, h2⟩
  · rw [if_neg h2] at h
    exact absurd h (rd_err a).1
end Go.Proofs.Ytbbfjfmcmckdmaa
