/- The walks of New, Step and Less, and of the document's. No condition but that the numbers are of 64 bits. -/
import Derived.Test.YtemgmphddmlmlaaProg
import Derived.Test.YtemgmphddmlmlaaGen
import Derived.Deep.RegionHeld3
namespace Go.Proofs.Ytemgmphddmlmlaa
open Go.RowKit

/-- A meter's value. -/
def mv (f c : Int) : Value := .agg #[.int .i64 f, .int .i64 c]

def fit (x hi : Int) : Int := min (max x 0) hi

theorem wr64 (z : Int) (h0 : -9223372036854775808 ≤ z) (h1 : z ≤ 9223372036854775807) : wrap64 z = z := by unfold wrap64; omega

theorem bel1 (w : World) (o : Obj) : Below w.heap.size w (w.alloc o) := (Below.refl _ _).alloc (Nat.le_refl _) _

theorem bel2 (w : World) (o p : Obj) : Below w.heap.size w ((w.alloc o).alloc p) := (bel1 w o).alloc (by simp) _

set_option maxRecDepth 100000 in
theorem new_any (f c : Int) (w : World) : Calls Try.prog 9 #[.int .i64 f, .int .i64 c] w fun e w' => e = .returned (mv (fit f 1073741824) (fit c 100000)) ∧ Below w.heap.size w w' := by
  go_enter Try.func9, Try.ntmps9
  go_wp2
  all_goals exact bodyPost_ret (v := mv (fit f 1073741824) (fit c 100000)) (by simp [results, Try.results9, go_sem, mv] <;> unfold fit <;> omega) rfl ⟨rfl, bel1 _ _⟩

set_option maxRecDepth 100000 in
theorem rnew_any (f c : Int) (w : World) : Calls Try.prog 10 #[.int .i64 f, .int .i64 c] w fun e w' => e = .returned (mv (fit f 1073741824) (fit c 100000)) ∧ Below w.heap.size w w' := by
  go_enter Try.func10, Try.ntmps10
  go_wp2
  all_goals exact bodyPost_ret (v := mv (fit f 1073741824) (fit c 100000)) (by simp [results, Try.results10, go_sem, mv] <;> unfold fit <;> omega) rfl ⟨rfl, bel1 _ _⟩

set_option maxRecDepth 100000 in
theorem step_any (f c : Int) (hf : f ≤ 9223372036854775807) (w : World) : Calls Try.prog 7 #[mv f c] w fun e w' => e = .returned (.tuple #[mv (if f ≤ 0 then f else f - 1) c, .int .i64 (if f ≤ 0 then 11 else 0)]) ∧ Below w.heap.size w w' := by
  by_cases h : f ≤ 0
  · rw [if_pos h, if_pos h]
    unfold mv
    go_enter Try.func7, Try.ntmps7
    go_wp2
    exact bodyPost_ret (v := .tuple #[mv f c, .int .i64 11]) (by simp [results, Try.results7, go_sem, mv]) rfl ⟨rfl, bel2 _ _ _⟩
  · rw [if_neg h, if_neg h]
    have hw := wr64 (f - 1) (by omega) (by omega)
    unfold mv
    go_enter Try.func7, Try.ntmps7
    go_wp2
    exact bodyPost_ret (v := .tuple #[mv (f - 1) c, .int .i64 0]) (by simp [results, Try.results7, go_sem, mv]) rfl ⟨rfl, bel2 _ _ _⟩

set_option maxRecDepth 100000 in
theorem rstep_any (f c : Int) (hf : f ≤ 9223372036854775807) (w : World) : Calls Try.prog 8 #[mv f c] w fun e w' => e = .returned (.tuple #[mv (if f ≤ 0 then f else f - 1) c, .int .i64 (if f ≤ 0 then 11 else 0)]) ∧ Below w.heap.size w w' := by
  by_cases h : f ≤ 0
  · rw [if_pos h, if_pos h]
    unfold mv
    go_enter Try.func8, Try.ntmps8
    go_wp2
    exact bodyPost_ret (v := .tuple #[mv f c, .int .i64 11]) (by simp [results, Try.results8, go_sem, mv]) rfl ⟨rfl, bel2 _ _ _⟩
  · rw [if_neg h, if_neg h]
    have hw := wr64 (f - 1) (by omega) (by omega)
    unfold mv
    go_enter Try.func8, Try.ntmps8
    go_wp2
    exact bodyPost_ret (v := .tuple #[mv (f - 1) c, .int .i64 0]) (by simp [results, Try.results8, go_sem, mv]) rfl ⟨rfl, bel2 _ _ _⟩

set_option maxRecDepth 100000 in
theorem less_any (f c s : Int) (hf : f ≤ 9223372036854775807) (w : World) : Calls Try.prog 13 #[mv f c, .int .i64 s] w fun e w' => e = .returned (mv (max f 0 - min (max s 0) (max f 0)) c) ∧ Below w.heap.size w w' := by
  unfold mv
  go_enter Try.func13, Try.ntmps13
  go_wp2
  all_goals exact bodyPost_ret (v := mv (max f 0 - min (max s 0) (max f 0)) c) (by simp [results, Try.results13, go_sem, mv] <;> (try unfold wrap64) <;> omega) rfl ⟨rfl, bel2 _ _ _⟩

set_option maxRecDepth 100000 in
theorem rless_any (f c s : Int) (hf : f ≤ 9223372036854775807) (w : World) : Calls Try.prog 14 #[mv f c, .int .i64 s] w fun e w' => e = .returned (mv (max f 0 - min (max s 0) (max f 0)) c) ∧ Below w.heap.size w w' := by
  unfold mv
  go_enter Try.func14, Try.ntmps14
  go_wp2
  all_goals exact bodyPost_ret (v := mv (max f 0 - min (max s 0) (max f 0)) c) (by simp [results, Try.results14, go_sem, mv] <;> (try unfold wrap64) <;> omega) rfl ⟨rfl, bel2 _ _ _⟩

end Go.Proofs.Ytemgmphddmlmlaa
