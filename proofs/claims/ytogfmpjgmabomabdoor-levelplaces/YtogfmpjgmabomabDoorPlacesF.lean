/- The walk of LevelPlaces. No condition but that the bytes lie in memory, and that the tables hold what the program's text lays. -/
import Derived.Test.YtogfmpjgmabomabDoorOrderLaw
import Derived.Test.YtogfmpjgmabomabDoorFree
namespace Go.Proofs.YtogfmpjgmabomabDoor
open Go.RowKit

/-- The value of a parameter at a place of the law. -/
def t5 (r : Nat) : Int := if r = 0 then 0 else if r = 1 then 1 else 500
def at5 (j : Nat) : List Int := [t5 (j % 3), t5 (j / 3 % 3), t5 (j / 9)]
/-- Is a more than b at one of the first j places? -/
def mo (a b : Lev) (j : Nat) : Bool := (List.range j).any fun i => decide (b.val (vv (at5 i)) < a.val (vv (at5 i)))
theorem mo_succ (a b : Lev) (j : Nat) : mo a b (j + 1) = (mo a b j || decide (b.val (vv (at5 j)) < a.val (vv (at5 j)))) := by
  unfold mo; rw [List.range_succ, List.any_append]; simp
theorem t5_nat (r : Nat) : (min (max (t5 r) 0) 1099511627776).toNat = if r = 0 then 0 else if r = 1 then 1 else 500 := by
  unfold t5; split <;> (try split) <;> rfl
theorem mo_all {a b : Lev} (ha : a.low 3) (hb : b.low 3) (hs : b.size ≤ 64) (fb : Fine b) : evB leR a b = !mo a b 27 := by
  have key : evB leR a b = false ↔ mo a b 27 = true := by
    constructor
    · intro h
      have hn : ¬ ∀ v, a.val v ≤ b.val v := fun hv => by rw [(leq_iff fb).2 hv] at h; cases h
      obtain ⟨v, hv⟩ := Classical.not_forall.1 hn
      obtain ⟨u, hu, hlt⟩ := Lev.tell a b 500 (by omega) v (by omega)
      obtain ⟨i, hi, hk⟩ := digits 3 (fun k => if u k = 0 then 0 else if u k = 1 then 1 else 2) (fun k => by split <;> (try split) <;> omega)
      have h0 := hk 0 (by omega)
      have h1 := hk 1 (by omega)
      have h2 := hk 2 (by omega)
      simp only [Nat.pow_zero, Nat.pow_one, Nat.div_one] at h0 h1 h2
      have hi' : i < 27 := hi
      have e : ∀ k, k < 3 → vv (at5 i) k = u k := by
        intro k hk3
        have tv : ∀ r, r = (if u k = 0 then 0 else if u k = 1 then 1 else 2) → (if r = 0 then 0 else if r = 1 then 1 else 500) = u k := by
          intro r hr
          rcases hu k with e | e | e <;> simp [e] at hr <;> subst hr <;> simp [e]
        match k, hk3 with
        | 0, _ => unfold vv at5; simp only [List.getD_cons_zero]; rw [t5_nat]; exact tv _ h0
        | 1, _ => unfold vv at5; simp only [List.getD_cons_succ, List.getD_cons_zero]; rw [t5_nat]; exact tv _ h1
        | 2, _ => unfold vv at5; simp only [List.getD_cons_succ, List.getD_cons_zero]; rw [t5_nat]; exact tv _ (by rw [← h2]; show i / 9 = i / 3 ^ 2 % 3; omega)
      unfold mo
      rw [List.any_eq_true]
      refine ⟨i, by simpa using hi', ?_⟩
      rw [a.val_congr ha e, b.val_congr hb e]
      simpa using hlt
    · intro h
      unfold mo at h
      rw [List.any_eq_true] at h
      obtain ⟨i, _, hi⟩ := h
      cases he : evB leR a b with
      | false => rfl
      | true => have := (leq_iff fb).1 he (vv (at5 i)); simp at hi; omega
  cases h1 : evB leR a b with
  | false => rw [key.1 h1]; rfl
  | true =>
    cases h2 : mo a b 27 with
    | false => rfl
    | true => rw [key.2 h2] at h1; cases h1

/-- A row of three numbers. -/
def T3 (w : World) (g : Nat) : Prop := Blk w g 3 [.int .i64 0, .int .i64 1, .int .i64 500]
theorem T3.cell {w : World} {g : Nat} (h : T3 w g) {r : Nat} (hr : r < 3) : w.cell? ⟨g, r, none⟩ = some (.int .i64 (t5 r)) := by
  match r, hr with
  | 0, _ => exact Blk.cell h rfl
  | 1, _ => exact Blk.cell h rfl
  | 2, _ => exact Blk.cell h rfl

/-- What is known of each operation's value. -/
def PlF (j r0 d1 r1 r2 : Nat) (i : Nat) (v : Value) (w : World) : Prop :=
  match i with
  | 0 => ∃ g, v = .slice (some ⟨g, 0, none⟩) 3 3 ∧ T3 w g
  | 1 => v = .int .i64 (j : Int)
  | 2 => v = .int .i64 (r0 : Int)
  | 3 => ∃ g, v = .pointer (some ⟨g, r0, none⟩) ∧ T3 w g
  | 4 => v = .int .i64 (t5 r0)
  | 5 => ∃ g, v = .slice (some ⟨g, 0, none⟩) 3 3 ∧ T3 w g
  | 6 => v = .int .i64 (j : Int)
  | 7 => v = .int .i64 (d1 : Int)
  | 8 => v = .int .i64 (r1 : Int)
  | 9 => ∃ g, v = .pointer (some ⟨g, r1, none⟩) ∧ T3 w g
  | 10 => v = .int .i64 (t5 r1)
  | 11 => ∃ g, v = .slice (some ⟨g, 0, none⟩) 3 3 ∧ T3 w g
  | 12 => v = .int .i64 (j : Int)
  | 13 => v = .int .i64 (r2 : Int)
  | 14 => ∃ g, v = .pointer (some ⟨g, r2, none⟩) ∧ T3 w g
  | 15 => v = .int .i64 (t5 r2)
  | 16 => ∃ g, v = .slice (some ⟨g, 0, none⟩) 3 3 ∧ Blk w g 3 [.int .i64 (t5 r0), .int .i64 (t5 r1), .int .i64 (t5 r2)]
  | 17 => ∃ g, v = .slice (some ⟨g, 0, none⟩) 3 3 ∧ Blk w g 3 [.int .i64 (t5 r0), .int .i64 (t5 r1), .int .i64 (t5 r2)]
  | _ => True
def PlD (i : Nat) : List Nat := ([[], [], [1], [0, 2], [3], [], [], [6], [7], [5, 8], [9], [], [], [12], [11, 13], [14], [4, 10, 15], [16]])[i]?.getD []
theorem PlF.on (j r0 d1 r1 r2 : Nat) (i : Nat) (v : Value) (w w' : World) (hb : Below w.heap.size w w') (h : PlF j r0 d1 r1 r2 i v w) : PlF j r0 d1 r1 r2 i v w' := by
  have b : ∀ {g l}, Blk w g 3 l → Blk w' g 3 l := fun h => h.below hb h.lt
  match i, h with
  | 0, ⟨g, e, h⟩ => exact ⟨g, e, b h⟩
  | 1, h => exact h
  | 2, h => exact h
  | 3, ⟨g, e, h⟩ => exact ⟨g, e, b h⟩
  | 4, h => exact h
  | 5, ⟨g, e, h⟩ => exact ⟨g, e, b h⟩
  | 6, h => exact h
  | 7, h => exact h
  | 8, h => exact h
  | 9, ⟨g, e, h⟩ => exact ⟨g, e, b h⟩
  | 10, h => exact h
  | 11, ⟨g, e, h⟩ => exact ⟨g, e, b h⟩
  | 12, h => exact h
  | 13, h => exact h
  | 14, ⟨g, e, h⟩ => exact ⟨g, e, b h⟩
  | 15, h => exact h
  | 16, ⟨g, e, h⟩ => exact ⟨g, e, b h⟩
  | 17, ⟨g, e, h⟩ => exact ⟨g, e, b h⟩
  | (n + 18), _ => exact trivial
end Go.Proofs.YtogfmpjgmabomabDoor
