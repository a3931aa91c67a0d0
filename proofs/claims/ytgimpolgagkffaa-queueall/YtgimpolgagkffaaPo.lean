/- The walks of a row's own Pop, and of first. No condition but that it has some. -/
import Derived.Test.YtgimpolgagkffaaPu
namespace Go.Proofs.Ytgimpolgagkffaa
open Go.RowKit

set_option maxRecDepth 100000 in
set_option maxHeartbeats 2000000 in
theorem rpop_any (g n b cap : Nat) (L : List En) (w : World) (hB : Blk w g 51 [.slice (some ⟨b, 0, none⟩) L.length cap, .int .i64 (n : Int)]) (hO : Row w b cap L) (h0 : 0 < L.length) (hm : L.length ≤ 1000000) :
    Calls Try.prog 70 #[.pointer (some ⟨g, 0, none⟩)] w fun e w' => (∃ v, e = .returned v) ∧ Blk w' g 51 [.slice (some ⟨b, 0, none⟩) (L.length - 1) cap, .int .i64 (n : Int)] ∧ Keep w w' (· = g) := by
  obtain ⟨k, hk⟩ : ∃ k, L.length = k + 1 := ⟨L.length - 1, by omega⟩
  obtain ⟨x0, x1, x2⟩ := hO.cells (i := k) (by omega)
  have hle := hO.le
  have c0 := hB.cell (j := 0) rfl
  have lg := hB.lt
  have f0 := hB.frozen 0
  generalize nth L k = x at *
  rw [hk] at c0 hle hm ⊢
  rw [Nat.add_sub_cancel]
  obtain ⟨xw, xn, xt⟩ := x
  clear hk
  go_enter Try.func70, Try.ntmps70
  go_wp2_with fail
  go_ret
  exact ⟨⟨_, rfl⟩, (hB.set 0 _).alloc _, ((Keep.refl w (· = g)).setCell (g := g) (fun _ => rfl) _ _).alloc _⟩

set_option maxRecDepth 100000 in
set_option maxHeartbeats 2000000 in
theorem rfirst_any (g n b cap : Nat) (L : List En) (w : World) (hB : Blk w g 51 [.slice (some ⟨b, 0, none⟩) L.length cap, .int .i64 (n : Int)]) (hO : Row w b cap L) (h0 : 0 < L.length) :
    Calls Try.prog 72 #[.pointer (some ⟨g, 0, none⟩)] w fun e w' => e = .returned (nth L 0).val ∧ Below w.heap.size w w' := by
  obtain ⟨x0, x1, x2⟩ := hO.cells (i := 0) h0
  rw [Nat.zero_mul] at x0 x1 x2
  have c0 := hB.cell (j := 0) rfl
  have lg := hB.lt
  have lb := hO.lt
  generalize nth L 0 = x at *
  obtain ⟨xw, xn, xt⟩ := x
  unfold En.val
  go_enter Try.func72, Try.ntmps72
  go_wp2_with fail
  exact bodyPost_ret (v := .agg #[.int .i64 xw, .int .i64 xn, .int .i64 (xt : Int)]) (by simp [results, Try.results72, go_sem]) rfl ⟨rfl, (Below.refl _ _).alloc (Nat.le_refl _) _⟩
end Go.Proofs.Ytgimpolgagkffaa
