/- The walks of Less and Swap. No condition but that the places are in the row. -/
import Derived.Test.YtgimpolgagkffaaRow
namespace Go.Proofs.Ytgimpolgagkffaa
open Go.RowKit

set_option maxRecDepth 100000 in
set_option maxHeartbeats 1000000 in
theorem less_any (b cap : Nat) (L : List En) (i j : Nat) (w : World) (h : Row w b cap L) (hi : i < L.length) (hj : j < L.length) :
    Calls Try.prog 67 #[.slice (some ⟨b, 0, none⟩) L.length cap, .int .i64 (i : Int), .int .i64 (j : Int)] w fun e w' => e = .returned (.bool (before (nth L i) (nth L j))) ∧ Below w.heap.size w w' := by
  obtain ⟨x0, x1, x2⟩ := h.cells hi
  obtain ⟨y0, y1, y2⟩ := h.cells hj
  have hle := h.le
  have X0 := over_cell x0
  have X1 := over_cell x1
  have X2 := over_cell x2
  have Y0 := over_cell y0
  have Y1 := over_cell y1
  have Y2 := over_cell y2
  have c69 : ∀ u, Calls Try.prog 69 #[(nth L i).val, (nth L j).val] (over w u) fun e w'' => e = .returned (.bool (before (nth L i) (nth L j))) ∧ ∃ u', w'' = over w u' := fun u => Calls.over (isBefore_any (nth L i) (nth L j) (over w u))
  unfold En.val at c69
  generalize before (nth L i) (nth L j) = r at c69 ⊢
  generalize nth L i = x at *
  generalize nth L j = y at *
  generalize L.length = n at *
  clear x0 x1 x2 y0 y1 y2 h
  go_enter Try.func67, Try.ntmps67
  go_wp2_with fail
  refine wp_region_over w (Below.refl _ _) (by kernel_rfl) (by kernel_rfl) ?_
  repeat (go_big_quiet_step (first | (go_at_call 69; exact c69 _)))
  refine wpQuiet_nil ?_
  rintro _ ⟨u, rfl⟩
  go_wp2_with fail
  go_ret
  exact ⟨rfl, over_below w u⟩

theorem Row.drew {w : World} {b cap : Nat} {L : List En} (h : Row w b cap L) : Row w.drew b cap L := h.carry rfl

/-- Two entries written. -/
theorem Row.swp {w : World} {b cap : Nat} {L : List En} (h : Row w b cap L) {i j : Nat} (hi : i < L.length) (hj : j < L.length) :
    Row ((((((w.setCell ⟨b, i * 3, none⟩ (.int .i64 (nth L j).wt)).setCell ⟨b, i * 3 + 1, none⟩ (.int .i64 (nth L j).num)).setCell ⟨b, i * 3 + 2, none⟩ (.int .i64 ((nth L j).turn : Int))).setCell
      ⟨b, j * 3, none⟩ (.int .i64 (nth L i).wt)).setCell ⟨b, j * 3 + 1, none⟩ (.int .i64 (nth L i).num)).setCell ⟨b, j * 3 + 2, none⟩ (.int .i64 ((nth L i).turn : Int))) b cap (swp L i j) :=
  (h.set hi (nth L j)).set (by simpa using hj) (nth L i)

set_option maxRecDepth 100000 in
set_option maxHeartbeats 1000000 in
theorem swap_any (b cap : Nat) (L : List En) (i j : Nat) (w : World) (h : Row w b cap L) (hi : i < L.length) (hj : j < L.length) :
    Calls Try.prog 68 #[.slice (some ⟨b, 0, none⟩) L.length cap, .int .i64 (i : Int), .int .i64 (j : Int)] w fun e w' => e = .returned (.tuple #[]) ∧ Row w' b cap (swp L i j) ∧ Keep w w' (· = b) := by
  obtain ⟨x0, x1, x2⟩ := h.cells hi
  obtain ⟨y0, y1, y2⟩ := h.cells hj
  have hle := h.le
  have hf := h.frozen
  have R : Hid (Row _ b cap (Go.Proofs.Ytgimpolgagkffaa.swp L i j)) := h.swp hi hj
  by_cases hij : i = j
  · subst hij
    generalize nth L i = x at *
    clear y0 y1 y2 h
    go_enter Try.func68, Try.ntmps68
    go_wp2_with fail
    go_region
    go_end0
    exact ⟨rfl, Row.drew R.out, ((((((Keep.setCell (Keep.refl w (· = b)) (g := b) (fun _ => rfl) _ _).setCell (g := b) (fun _ => rfl) _ _).setCell (g := b) (fun _ => rfl) _ _).setCell (g := b) (fun _ => rfl) _ _).setCell (g := b) (fun _ => rfl) _ _).setCell (g := b) (fun _ => rfl) _ _).drew⟩
  · have h3 : ¬ i * 3 = j * 3 := by omega
    generalize nth L i = x at *
    generalize nth L j = y at *
    clear h
    go_enter Try.func68, Try.ntmps68
    go_wp2_with fail
    go_region
    go_end0
    exact ⟨rfl, Row.drew R.out, ((((((Keep.setCell (Keep.refl w (· = b)) (g := b) (fun _ => rfl) _ _).setCell (g := b) (fun _ => rfl) _ _).setCell (g := b) (fun _ => rfl) _ _).setCell (g := b) (fun _ => rfl) _ _).setCell (g := b) (fun _ => rfl) _ _).setCell (g := b) (fun _ => rfl) _ _).drew⟩

end Go.Proofs.Ytgimpolgagkffaa
