/- order2, median, medianAdjacent and choosePivot over a queue's row: a place within bounds; they turn nothing but the count of swaps. No condition but sizes. -/
import Derived.Test.YtgimpolgagkffaaSo1
namespace Go.Proofs.Ytgimpolgagkffaa
open Go.RowKit

/-- The cell of swaps lies in block s, apart from the row, and holds c. -/
structure SC (w0 : World) (b cap n : Nat) (L : List En) (s : Nat) (w : World) (c : Int) : Prop where
  pr : PR w0 b cap n L w
  new : w0.heap.size ≤ s
  blk : Blk w s 3 [.int .i64 c]
  ne : s ≠ b

theorem SC.low {w0 w w' : World} {b cap n : Nat} {L : List En} {s : Nat} {c : Int} (h : SC w0 b cap n L s w c) (hb : Below w.heap.size w w') : SC w0 b cap n L s w' c := ⟨h.pr.low hb, h.new, h.blk.below hb h.blk.lt, h.ne⟩

theorem SC.set {w0 w : World} {b cap n : Nat} {L : List En} {s : Nat} {c : Int} (h : SC w0 b cap n L s w c) (d : Int) : SC w0 b cap n L s (w.setCell ⟨s, 0, none⟩ (.int .i64 d)) d := by
  obtain ⟨hn, L', hp, hr, hk⟩ := h.pr
  exact ⟨⟨hn, L', hp, hr.carry (Below.heap_setCell _ _ _ _ (fun e => h.ne e.symm)), hk.setCell (g := s) (fun e => by have := h.new; omega) _ _⟩, h.new, h.blk.set 0 _, h.ne⟩

/-- What order2 tells. -/
structure O2 (w0 : World) (b cap n : Nat) (L : List En) (s : Nat) (c lo hi : Int) (w' : World) (p q d : Int) : Prop where
  p0 : lo ≤ p
  p9 : p < hi
  q0 : lo ≤ q
  q9 : q < hi
  d0 : c ≤ d
  d9 : d ≤ c + 1
  sc : SC w0 b cap n L s w' d

set_option maxRecDepth 100000 in
set_option maxHeartbeats 2000000 in
theorem order2_any (b cap n : Nat) (L : List En) (s : Nat) (c lo hi x y : Int) (w0 w : World) (h : SC w0 b cap n L s w c) (hlo : 0 ≤ lo) (hhi : hi ≤ (n : Int)) (hx : lo ≤ x) (hx9 : x < hi) (hy : lo ≤ y) (hy9 : y < hi) (hc : 0 ≤ c) (hc9 : c ≤ 1000000) :
    Calls Try.prog 49 #[.iface 49 (.slice (some ⟨b, 0, none⟩) n cap), .int .i64 x, .int .i64 y, .pointer (some ⟨s, 0, none⟩)] w fun e w' => ∃ p q, e = .returned (.tuple #[.int .i64 p, .int .i64 q]) ∧ ∃ d, O2 w0 b cap n L s c lo hi w' p q d := by
  have e67 := e67
  have mL := m_lessV b n cap
  go_enter Try.func49, Try.ntmps49
  go_wp2_with fail
  refine (less_w y x w h.pr (by omega) (by omega) (by omega) (by omega)).mono ?_
  rintro e w1 ⟨⟨r, rfl⟩, hb⟩
  have h1 := h.low hb
  clear h hb
  have c0 := h1.blk.cell (j := 0) rfl
  have f0 := h1.blk.frozen 0
  have l0 := h1.blk.lt
  cases r with
  | false =>
    have FF : Hid (O2 w0 b cap n L s c lo hi w1 x y c) := ⟨hx, hx9, hy, hy9, by omega, by omega, h1⟩
    clear h1
    go_wp2_with fail
    refine bodyPost_ret (v := .tuple #[.int .i64 x, .int .i64 y]) (by simp [results, Try.results49, go_sem]) rfl ⟨x, y, rfl, c, FF.out⟩
  | true =>
    have FF : Hid (O2 w0 b cap n L s c lo hi (w1.setCell ⟨s, 0, none⟩ (.int .i64 (c + 1))) y x (c + 1)) := ⟨hy, hy9, hx, hx9, by omega, by omega, h1.set _⟩
    clear h1
    go_wp2_with fail
    refine bodyPost_ret (v := .tuple #[.int .i64 y, .int .i64 x]) (by simp [results, Try.results49, go_sem]) rfl ⟨y, x, rfl, c + 1, FF.out⟩

/-- What median tells. -/
structure Md (w0 : World) (b cap n : Nat) (L : List En) (s : Nat) (c lo hi : Int) (w' : World) (p d : Int) : Prop where
  p0 : lo ≤ p
  p9 : p < hi
  d0 : c ≤ d
  d9 : d ≤ c + 3
  sc : SC w0 b cap n L s w' d

set_option maxRecDepth 100000 in
set_option maxHeartbeats 2000000 in
theorem median_any (b cap n : Nat) (L : List En) (s : Nat) (c lo hi x y z : Int) (w0 w : World) (h : SC w0 b cap n L s w c) (hlo : 0 ≤ lo) (hhi : hi ≤ (n : Int)) (hx : lo ≤ x) (hx9 : x < hi) (hy : lo ≤ y) (hy9 : y < hi) (hz : lo ≤ z) (hz9 : z < hi) (hc : 0 ≤ c) (hc9 : c ≤ 100000) :
    Calls Try.prog 48 #[.iface 49 (.slice (some ⟨b, 0, none⟩) n cap), .int .i64 x, .int .i64 y, .int .i64 z, .pointer (some ⟨s, 0, none⟩)] w fun e w' => ∃ p, e = .returned (.int .i64 p) ∧ ∃ d, Md w0 b cap n L s c lo hi w' p d := by
  go_enter Try.func48, Try.ntmps48
  go_wp2_with fail
  refine (order2_any b cap n L s c lo hi x y w0 w h hlo hhi hx hx9 hy hy9 hc (by omega)).mono ?_
  rintro e w1 ⟨p1, q1, rfl, d1, h1⟩
  obtain ⟨a1, a2, a3, a4, a5, a6, s1⟩ := h1
  clear h
  go_wp2_with fail
  refine (order2_any b cap n L s d1 lo hi q1 z w0 w1 s1 hlo hhi a3 a4 hz hz9 (by omega) (by omega)).mono ?_
  rintro e w2 ⟨p2, q2, rfl, d2, h2⟩
  obtain ⟨b1, b2, b3, b4, b5, b6, s2⟩ := h2
  clear s1
  go_wp2_with fail
  refine (order2_any b cap n L s d2 lo hi p1 p2 w0 w2 s2 hlo hhi a1 a2 b1 b2 (by omega) (by omega)).mono ?_
  rintro e w3 ⟨p3, q3, rfl, d3, h3⟩
  have FF : Hid (Md w0 b cap n L s c lo hi w3 q3 d3) := ⟨h3.q0, h3.q9, by have := h3.d0; omega, by have := h3.d9; omega, h3.sc⟩
  clear s2 h3
  go_wp2_with fail
  go_ret
  exact ⟨q3, rfl, d3, FF.out⟩

set_option maxRecDepth 100000 in
set_option maxHeartbeats 2000000 in
theorem medAdj_any (b cap n : Nat) (L : List En) (s : Nat) (c lo hi x : Int) (w0 w : World) (h : SC w0 b cap n L s w c) (hlo : 0 ≤ lo) (hhi : hi ≤ (n : Int)) (hx : lo ≤ x - 1) (hx9 : x + 1 < hi) (hn : n ≤ 1000000) (hc : 0 ≤ c) (hc9 : c ≤ 100000) :
    Calls Try.prog 47 #[.iface 49 (.slice (some ⟨b, 0, none⟩) n cap), .int .i64 x, .pointer (some ⟨s, 0, none⟩)] w fun e w' => ∃ p, e = .returned (.int .i64 p) ∧ ∃ d, Md w0 b cap n L s c lo hi w' p d := by
  go_enter Try.func47, Try.ntmps47
  go_wp2_with fail
  refine (median_any b cap n L s c lo hi (x - 1) x (x + 1) w0 w h hlo hhi (by omega) (by omega) (by omega) (by omega) (by omega) (by omega) hc hc9).mono ?_
  rintro e w1 ⟨p1, rfl, d1, h1⟩
  go_wp2_with fail
  go_ret
  exact ⟨p1, rfl, d1, h1⟩
end Go.Proofs.Ytgimpolgagkffaa
