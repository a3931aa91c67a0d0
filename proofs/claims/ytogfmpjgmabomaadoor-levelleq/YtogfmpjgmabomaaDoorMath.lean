/- What Leq, Same, Never tell of levels: few places tell of all. Of no program; no condition. -/
import Derived.Test.YtogfmpjgmabomaaDoorPicks
namespace Go.Proofs.YtogfmpjgmabomaaDoor
open Go.RowKit

theorem Lev.low_used (l : Lev) {p : Nat} (h : l.lv.used ≤ p) : l.low p := by
  induction l with
  | zero => trivial
  | succ a ih =>
    simp only [Lev.lv] at h
    rw [Lv.used_mk] at h
    simp only [Lv.useds] at h
    exact ih (by omega)
  | max a b iha ihb =>
    simp only [Lev.lv] at h
    rw [Lv.used_mk] at h
    simp only [Lv.useds] at h
    exact ⟨iha (by omega), ihb (by omega)⟩
  | imax a b iha ihb =>
    simp only [Lev.lv] at h
    rw [Lv.used_mk] at h
    simp only [Lv.useds] at h
    exact ⟨iha (by omega), ihb (by omega)⟩
  | par n =>
    simp only [Lev.lv] at h
    rw [Lv.used_mk, if_pos rfl] at h
    show n < p
    omega
theorem fine_lev (l : Lev) (h : mayB l.lv 4 = true) : Fine l ∧ l.size ≤ 64 := by
  unfold mayB at h
  simp only [Bool.and_eq_true, decide_eq_true_eq] at h
  obtain ⟨h1, h2⟩ := h
  rw [show min (max (4 : Int) 0) 4 = 4 by decide] at h2
  have hu := Lv.used_le (by decide) _ _ h2
  rw [Lev.size_lv] at h1
  refine ⟨⟨?_, Lev.low_used l (p := 4) (by omega), by omega⟩, h1⟩
  unfold holdB
  rw [Lv.ok_mono (by decide) _ _ h2, Lev.size_lv]
  simp; omega

theorem digits (p : Nat) : ∀ d : Nat → Nat, (∀ k, d k < 3) → ∃ i, i < 3 ^ p ∧ ∀ k, k < p → i / 3 ^ k % 3 = d k := by
  induction p with
  | zero => intro d _; exact ⟨0, by simp, fun k hk => absurd hk (Nat.not_lt_zero k)⟩
  | succ p ih =>
    intro d hd
    obtain ⟨i, hi, h⟩ := ih (fun k => d (k + 1)) (fun k => hd (k + 1))
    refine ⟨d 0 + 3 * i, ?_, fun k hk => ?_⟩
    · have := hd 0; rw [Nat.pow_succ]; omega
    · cases k with
      | zero => have := hd 0; simp; omega
      | succ k =>
        have h1 := h k (by omega)
        have e : (d 0 + 3 * i) / 3 ^ (k + 1) = i / 3 ^ k := by
          have h0 := hd 0
          have h2 : (d 0 + 3 * i) / 3 = i := by omega
          rw [show 3 ^ (k + 1) = 3 * 3 ^ k by rw [Nat.pow_succ, Nat.mul_comm], ← Nat.div_div_eq_div_mul, h2]
        rw [e]; exact h1

theorem place_of (p : Nat) {u : Nat → Nat} (hu : Tells 1099511627776 u) : ∃ i, i < 3 ^ p ∧ ∀ k, k < p → pl i k = u k := by
  obtain ⟨i, hi, h⟩ := digits p (fun k => if u k = 0 then 0 else if u k = 1 then 1 else 2) (fun k => by split <;> (try split) <;> omega)
  refine ⟨i, hi, fun k hk => ?_⟩
  unfold pl
  rw [h k hk]
  rcases hu k with e | e | e
  · simp [e, tl]
  · simp [e, tl]
  · simp [e, tl]

theorem pars_low {a b : Lev} : a.low (pars a b) ∧ b.low (pars a b) := by
  have h1 := Lv.used_nonneg a.lv
  have h2 := Lv.used_nonneg b.lv
  exact ⟨a.low_used (by unfold pars; omega), b.low_used (by unfold pars; omega)⟩

theorem evB_at {R : Nat → Nat → Bool} {a b : Lev} (h : evB R a b = true) {i : Nat} (hi : i < 3 ^ pars a b) : R (a.val (pl i)) (b.val (pl i)) = true := by
  unfold evB at h
  rw [List.all_eq_true] at h
  exact h i (by simpa using hi)

theorem leq_iff {a b : Lev} (hb : Fine b) : evB leR a b = true ↔ ∀ v, a.val v ≤ b.val v := by
  constructor
  · intro h v
    by_cases hlt : b.val v < a.val v
    · obtain ⟨u, hu, hu2⟩ := Lev.tell a b 1099511627776 (by have := hb.size; omega) v hlt
      obtain ⟨i, hi, hk⟩ := place_of (pars a b) hu
      have h1 := evB_at h hi
      obtain ⟨la, lb⟩ := pars_low (a := a) (b := b)
      rw [a.val_congr la hk, b.val_congr lb hk] at h1
      unfold leR at h1
      simp at h1
      omega
    · omega
  · intro h
    exact evB_true fun i _ => by unfold leR; simpa using h _
theorem same_iff {a b : Lev} (ha : Fine a) (hb : Fine b) : evB eqR a b = true ↔ ∀ v, a.val v = b.val v := by
  constructor
  · intro h v
    have h1 : evB leR a b = true := evB_true fun i hi => by have := evB_at h hi; unfold eqR at this; unfold leR; simp at this ⊢; omega
    have h2 : evB leR b a = true := evB_true fun i hi => by
      have hp : pars b a = pars a b := by unfold pars; omega
      rw [hp] at hi
      have := evB_at h hi; unfold eqR at this; unfold leR; simp at this ⊢; omega
    have := (leq_iff hb).1 h1 v
    have := (leq_iff ha).1 h2 v
    omega
  · intro h
    exact evB_true fun i _ => by unfold eqR; simpa using h _
theorem never_iff (l : Lev) : decide (0 < l.least) = true ↔ ∀ v, 0 < l.val v := by
  unfold Lev.least
  constructor
  · intro h v
    have := l.val_mono (u := fun _ => 0) (v := v) (fun _ => Nat.zero_le _)
    simp at h
    omega
  · intro h; simpa using h _
end Go.Proofs.YtogfmpjgmabomaaDoor
