/- Plain facts on texts that are written as frames, one behind the other. No condition but that each is no longer than 65,536. -/
import Derived.Test.YtbbfjfmcmckdmaaOnes
import Derived.Test.YtbbfjfmcmckdmaaLists
namespace Go.Proofs.Ytbbfjfmcmckdmaa
open Go.RowKit

def enc (ls : List (List UInt8)) : List UInt8 := (ls.map fun l => Lib.uvarint l.length ++ l).flatten

theorem t1_text (ss rs : List UInt8) (h : ss.length ≤ 65536) : t1 (Lib.uvarint ss.length ++ ss ++ rs) = (ss, (Lib.uvarint ss.length).length + ss.length, 0) :=
  tt_back ss rs (by omega) 65536 (by omega)

theorem rd_enc (ls : List (List UInt8)) (h : ∀ l ∈ ls, l.length ≤ 65536) (rs : List UInt8) : rd (enc ls ++ rs) = (ls ++ (rd rs).1, (rd rs).2) := by
  induction ls with
  | nil => rfl
  | cons l ls ih =>
    have e : enc (l :: ls) ++ rs = Lib.uvarint l.length ++ l ++ (enc ls ++ rs) := by simp [enc, List.append_assoc]
    rw [e, rd_at (t1_text l _ (h l (by simp))), ← List.length_append, List.drop_left, ih (fun x hx => h x (by simp [hx]))]
    rfl

theorem enc_take (ls : List (List UInt8)) (k : Nat) (l : List UInt8) (h : ls[k]? = some l) : enc (ls.take (k + 1)) = enc (ls.take k) ++ Lib.uvarint l.length ++ l := by
  unfold enc
  rw [List.take_add_one, h]
  simp

theorem enc_length (ls : List (List UInt8)) (h : ∀ l ∈ ls, l.length ≤ 65536) : (enc ls).length ≤ ls.flatten.length + 10 * ls.length := by
  induction ls with
  | nil => simp [enc]
  | cons l ls ih =>
    have h1 := ih (fun x hx => h x (by simp [hx]))
    have h2 := h l (by simp)
    have h3 := Lib.uvarint_length64 (x := l.length) (by omega)
    have e : enc (l :: ls) = Lib.uvarint l.length ++ l ++ enc ls := by simp [enc]
    rw [e]
    simp only [List.length_append, List.flatten_cons, List.length_cons]
    omega

theorem mem_flat (ls : List (List UInt8)) (l : List UInt8) (h : l ∈ ls) : l.length ≤ ls.flatten.length := by
  induction ls with
  | nil => cases h
  | cons x ls ih =>
    rw [List.flatten_cons, List.length_append]
    rcases List.mem_cons.1 h with rfl | h
    · omega
    · have := ih h; omega

/-- A beginning of what is all frames is no fault. -/
theorem rd_begin (a b : List UInt8) (h : (rd (a ++ b)).2.2 = 2) : (allS a).2 = 0 := by
  by_cases h2 : (rd a).2.2 = 2
  · unfold allS; rw [if_pos h2]
  · have := (rd_bad a b h2).2
    omega
end Go.Proofs.Ytbbfjfmcmckdmaa
