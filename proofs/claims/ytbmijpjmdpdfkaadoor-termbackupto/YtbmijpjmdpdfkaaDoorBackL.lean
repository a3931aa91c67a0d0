/- The walk of TermBack. No condition but that the terms lie in memory, that t's Levels are few, and that the tables hold what the program's text lays. -/
import Derived.Test.YtbmijpjmdpdfkaaDoorEqT
import Derived.Test.YtbmijpjmdpdfkaaDoorLi
import Derived.Test.YtbmijpjmdpdfkaaDoorBg2
import Derived.Test.YtbmijpjmdpdfkaaDoorRWhole
import Derived.Test.YtbmijpjmdpdfkaaDoorCount
namespace Go.Proofs.YtbmijpjmdpdfkaaDoor
open Go.RowKit

set_option maxRecDepth 100000 in
theorem light_any (T : Tr) (left : Int) (w : World) (B : Nat) (h1 : 0 ≤ left) (h2 : left ≤ 4611686018427387904) (hB : B ≤ w.heap.size) (h : TIn w (· < B) T) :
    Calls Tryd.prog 14 #[T.val, .int .i64 left] w fun e w' => e = .returned (.bool (T.wleB left)) ∧ Below w.heap.size w w' := by
  obtain ⟨w1, hw1, hb1, P1, hs1⟩ := one_new w [.int .i64 T.k, .int .i64 T.n, .string T.s, .slice T.la T.ls.length T.lc, .slice T.a T.args.length T.c] 25
  have hcall := rwhole_any T left w1 B h1 h2 (by omega) (h.below hb1 hB)
  have p0 := P1.cell (j := 0) rfl
  have p1 := P1.cell (j := 1) rfl
  have p2 := P1.cell (j := 2) rfl
  have p3 := P1.cell (j := 3) rfl
  have p4 := P1.cell (j := 4) rfl
  unfold Tr.val at *
  go_enter Tryd.func14, Tryd.ntmps14
  go_wp2_with (go_at_call 36; refine hcall.mono ?_; rintro e w5 ⟨rfl, hb5⟩)
  go_ret
  exact ⟨rfl, hb1.trans (hb5.mono (by omega))⟩

theorem toList_loop (s : ByteArray) : ∀ (n i : Nat) (r : List UInt8), s.size - i = n → r.length ≤ (ByteArray.toList.loop s i r).length := by
  intro n
  induction n with
  | zero => intro i r h; rw [ByteArray.toList.loop, if_neg (by omega)]; simp
  | succ n ih => intro i r h; rw [ByteArray.toList.loop, if_pos (by omega)]; have := ih (i + 1) (s.get! i :: r) (by omega); simp at this; omega
theorem em_empty {s : ByteArray} (h : emB s = true) : s = { data := #[] } := by
  unfold emB at h
  simp only [decide_eq_true_eq] at h
  have h0 : s.size = 0 := by
    rcases Nat.eq_zero_or_pos s.size with h0 | h0
    · exact h0
    · unfold ByteArray.toList at h
      rw [ByteArray.toList.loop, if_pos h0] at h
      have := toList_loop s _ 1 [s.get! 0] rfl
      rw [h] at this
      simp at this
  cases s with
  | mk d =>
    have : d = #[] := Array.eq_empty_of_size_eq_zero h0
    rw [this]

theorem okT_of (T : Tr) : T.allB = true → T.farB = false → OkT 1000000 T := by
  refine Tr.ind' (P := fun T => T.allB = true → T.farB = false → OkT 1000000 T) ?_ T
  intro T ih hA hF
  rw [Tr.allB_eq, Bool.and_eq_true] at hA
  rw [Tr.farB_eq, Bool.or_eq_false_iff] at hF
  obtain ⟨hw, hall⟩ := hA
  obtain ⟨hn, hfar⟩ := hF
  have hn' : T.n ≤ 1000000 := by simp at hn; omega
  unfold Tr.wholeB at hw
  rw [Bool.and_eq_true] at hw
  obtain ⟨hf, hk⟩ := hw
  have hnn : 0 ≤ T.n := by
    split at hk
    · unfold varB at hk; simp at hk; omega
    · split at hk
      · unfold sortB at hk; simp at hk; omega
      · split at hk
        · unfold constB at hk; simp at hk; omega
        · unfold bareB at hk; simp at hk; omega
  refine .mk (by unfold Tr.formB at hf; simpa using hf) hnn hn' (fun h0 => ?_) (fun L hL => ih L hL (Tr.allsB_iff.1 hall L hL) ?_)
  · rw [if_pos h0] at hk
    unfold varB at hk
    simp only [Bool.and_eq_true] at hk
    exact ⟨em_empty hk.2.2.1, by have := hk.2.2.2; simp at this; exact this⟩
  · cases hLf : L.farB with
    | false => rfl
    | true =>
      obtain ⟨i, hi, e⟩ := List.getElem_of_mem hL
      rw [Tr.farsB_mem (i := i) (by rw [List.getElem?_eq_getElem hi, e]) hLf] at hfar
      cases hfar
end Go.Proofs.YtbmijpjmdpdfkaaDoor
