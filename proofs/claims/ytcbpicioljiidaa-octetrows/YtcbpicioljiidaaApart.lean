/- OctetApart, the walk. -/
import Derived.Test.YtcbpicioljiidaaBegun
import Derived.Test.YtcbpicioljiidaaNums
import Derived.Lib.Split
import Derived.Deep.RegionWith
import Derived.BigQuiet
import Derived.Deep.QuietTactic
namespace Go.Proofs.Ytcbpicioljiidaa
open Go.RowKit

/-- 'string(b)' at the program's own types. -/
theorem str_of {w : World} {ao : Option Addr} {n cap : Nat} {bs : List UInt8} (h : Rd w ao n cap bs) : (convert 22 9 (.slice ao n cap)).run Try.prog w = .ok (.string ⟨bs.toArray⟩) w :=
  h.str (P := Try.prog) w (src := 22) (dst := 9) Try.underlying22 Try.underlying5 Try.underlying9

theorem var_nil (x : Nat) (w : World) (hx : x < 18446744073709551616) :
    Calls Try.prog 11 #[.slice none 0 0, .int .u64 (x : Int)] w fun e w' => ∃ g cap', e = .returned (.slice (some ⟨g, 0, none⟩) (Lib.uvarint x).length cap') ∧ Own 5 w.heap.size w' g (Lib.uvarint x).length cap' (Lib.uvarint x) ∧ Below w.heap.size w w' := by
  have h := var_any none 0 0 [] x w (App.nil 5 0 _).1 (by decide) hx
  simpa only [Nat.zero_add, List.nil_append] using h

theorem ba_size (l : List UInt8) : (⟨l.toArray⟩ : ByteArray).size = l.length := by show (List.toArray _).size = _; simp

theorem apart_facts (a b : Nat) (ha : a < 18446744073709551616) (hb : b < 18446744073709551616) (p q : ByteArray) (hp : p = ⟨(Lib.uvarint a).toArray⟩) (hq : q = ⟨(Lib.uvarint b).toArray⟩) :
    0 < p.size ∧ 0 < q.size ∧ p.size ≤ 10 ∧ q.size ≤ 10 ∧ (a ≤ b → p.size ≤ q.size) ∧ (b ≤ a → q.size ≤ p.size) ∧
      (a ≠ b → (p.toList == (q.extract 0 p.size).toList) = false) ∧ (a ≠ b → ((p.extract 0 q.size).toList == q.toList) = false) := by
  subst hp
  subst hq
  rw [ba_size, ba_size]
  refine ⟨Lib.uvarint_pos a, Lib.uvarint_pos b, Lib.uvarint_length64 ha, Lib.uvarint_length64 hb, uv_mono b a, uv_mono a b, fun h => ?_, fun h => ?_⟩
  · rw [beq_eq_false_iff_ne]
    intro e
    rw [ByteArray.toList_mk, ByteArray.toList_eq, Lib.extract_from_zero] at e
    exact h (uv_prefix a b ha hb (by simpa using e.symm))
  · rw [beq_eq_false_iff_ne]
    intro e
    rw [ByteArray.toList_mk, ByteArray.toList_eq, Lib.extract_from_zero] at e
    exact h (uv_prefix b a hb ha (by simpa using e)).symm

set_option maxRecDepth 100000 in
set_option maxHeartbeats 1000000 in
theorem apart_walk (a b : Nat) (w : World) (ha : a < 18446744073709551616) (hb : b < 18446744073709551616) :
    Calls Try.prog 6 #[.int .u64 (a : Int), .int .u64 (b : Int)] w fun e w' => e = .returned (.bool true) ∧ Below w.heap.size w w' := by
  have tok1 : True := trivial
  go_enter Try.func6, Try.ntmps6
  go_wp2_with (go_at_call 9; refine (begun_any _).mono ?_; rintro e w0 ⟨rfl, hb0⟩)
  go_region_with
    (first
      | (go_at_call 11; have _t := tok1; refine (var_nil a _ ha).mono ?_; rintro e w1 ⟨g1, c1, rfl, ho1, hb1⟩; clear tok1; have hcv1 := str_of ho1.rd)
      | (go_at_call 11; refine (var_nil b _ hb).mono ?_; rintro e w2 ⟨g2, c2, rfl, ho2, hb2⟩; have hcv1' := str_of (ho1.below hb2 ho1.lt).rd; have hcv2 := str_of ho2.rd))
  all_goals
    have hbel : Below w.heap.size w w2 := (hb0.trans ((Below.refl _ _).drew)).trans ((hb1.mono hb0.size).trans (hb2.mono (Nat.le_trans hb0.size hb1.size)))
    generalize hp : (⟨(Lib.uvarint a).toArray⟩ : ByteArray) = p at *
    generalize hq : (⟨(Lib.uvarint b).toArray⟩ : ByteArray) = q at *
    obtain ⟨p0, q0, p10, q10, m1, m2, f1, f2⟩ := apart_facts a b ha hb p q hp.symm hq.symm
    clear hcv1 hcv1' hcv2 ho1 ho2 hb1 hb2 hb0 hp hq
    by_cases he : a = b
    · have hs := m1 (by omega)
      have he1 : ((a : Int) == (b : Int)) = true := by simp [he]
      have hge : (b : Int) ≤ (a : Int) := by omega
      clear f1 f2 m1 m2 he
      go_wp2_with fail
      go_quiet (fail)
      go_wp2
      go_ret
      exact ⟨rfl, below_drewN hbel _⟩
    · have he1 : ((a : Int) == (b : Int)) = false := by rw [beq_eq_false_iff_ne]; omega
      have g1 := f1 he
      have g2 := f2 he
      clear f1 f2
      by_cases hs : p.size ≤ q.size
      · clear g2 m1
        by_cases hge : b ≤ a
        · clear m2
          go_wp2_with fail
          go_quiet (fail)
          go_wp2
          go_ret
          exact ⟨rfl, below_drewN hbel _⟩
        · clear m2
          go_wp2_with fail
          go_quiet (fail)
          go_wp2
          go_ret
          exact ⟨rfl, below_drewN hbel _⟩
      · have hge : b ≤ a := by omega
        clear g1 m1 m2
        go_wp2_with fail
        go_quiet (fail)
        go_wp2
        go_ret
        exact ⟨rfl, below_drewN hbel _⟩
end Go.Proofs.Ytcbpicioljiidaa
