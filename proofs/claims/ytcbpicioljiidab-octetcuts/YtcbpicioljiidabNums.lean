/- Plain facts on varints, eights and hexadecimal digits: what was written is read. No condition but that numbers fit in 64 bits. -/
import Derived.Test.YtcbpicioljiidabTake
import Derived.Test.YtcbpicioljiidabEight
import Derived.Test.YtcbpicioljiidabHex
namespace Go.Proofs.Ytcbpicioljiidab
open Go.RowKit

theorem toU8 (x : Nat) (h : x < 256) : x.toUInt8.toNat = x := by simp; omega

/-- What was written is read, whatever stands behind. -/
theorem tv_uv (x : Nat) : ∀ (i acc : Nat) (rest : List UInt8), x * 2 ^ (7 * i) < 2 ^ 64 → (0 < i → 0 < x) → i ≤ 9 →
    tv i acc (Lib.uvarint x ++ rest) = (acc + x * 2 ^ (7 * i), i + (Lib.uvarint x).length, 0) := by
  induction x using Nat.strongRecOn with
  | _ x ih =>
    intro i acc rest hx hi h9
    have hp9 : i = 9 → x ≤ 1 := fun h => by subst h; omega
    by_cases hs : x < 128
    · rw [Lib.uvarint_small hs]
      have hc := toU8 x (by omega)
      simp only [List.cons_append, List.nil_append, List.length_cons, List.length_nil]
      rw [tv, hc, if_neg (by omega), if_neg (by omega), if_neg (by omega)]
    · rw [Lib.uvarint_big (by omega)]
      have hc := toU8 (x % 128 + 128) (by omega)
      simp only [List.cons_append, List.length_cons]
      have hpw : 2 ^ (7 * (i + 1)) = 128 * 2 ^ (7 * i) := by rw [Nat.mul_add, Nat.pow_add, Nat.mul_comm]
      have hdm : x = 128 * (x / 128) + x % 128 := by omega
      have hle : x / 128 * (128 * 2 ^ (7 * i)) + x % 128 * 2 ^ (7 * i) = x * 2 ^ (7 * i) := by
        rw [← Nat.mul_assoc, ← Nat.add_mul]
        congr 1
        omega
      rw [tv, hc, if_neg (by omega), if_pos (by omega), ih (x / 128) (by omega) (i + 1) _ rest (by rw [hpw]; omega) (by omega) (by omega), hpw]
      have : (x % 128 + 128) % 128 = x % 128 := by omega
      rw [this]
      simp only [Prod.mk.injEq, and_true]
      refine ⟨by omega, by omega⟩

theorem tv_back (x : Nat) (hx : x < 2 ^ 64) (rest : List UInt8) : tv 0 0 (Lib.uvarint x ++ rest) = (x, (Lib.uvarint x).length, 0) := by
  have := tv_uv x 0 0 rest (by simpa using hx) (by omega) (by omega)
  simpa using this

/-- No varint is the beginning of another one. -/
theorem uv_prefix (a b : Nat) (ha : a < 2 ^ 64) (hb : b < 2 ^ 64) (h : (Lib.uvarint b).take (Lib.uvarint a).length = Lib.uvarint a) : a = b := by
  have h1 := tv_back b hb []
  rw [List.append_nil] at h1
  have h2 := tv_back a ha ((Lib.uvarint b).drop (Lib.uvarint a).length)
  rw [show Lib.uvarint a ++ (Lib.uvarint b).drop (Lib.uvarint a).length = Lib.uvarint b by conv => lhs; arg 1; rw [← h]
                                                                                           exact List.take_append_drop _ _] at h2
  rw [h1] at h2
  simp at h2
  exact h2.1.symm

/-- Greater ones are not shorter. -/
theorem uv_mono (b : Nat) : ∀ a, a ≤ b → (Lib.uvarint a).length ≤ (Lib.uvarint b).length := by
  induction b using Nat.strongRecOn with
  | _ b ih =>
    intro a hab
    by_cases h : a < 128
    · rw [Lib.uvarint_small h]
      exact Lib.uvarint_pos b
    · rw [Lib.uvarint_big (x := a) (by omega), Lib.uvarint_big (x := b) (by omega), List.length_cons, List.length_cons]
      have := ih (b / 128) (by omega) (a / 128) (by omega)
      omega
end Go.Proofs.Ytcbpicioljiidab
