/- The walks of slices' Index and Contains over a row of entries, and of has. No condition but sizes. -/
import Derived.Test.YtgimpolgagkffaaQs3
namespace Go.Proofs.Ytgimpolgagkffaa
open Go.RowKit

/-- A row of entries, that may be nil where it has none. -/
def ORow (w : World) (ao : Option Addr) (cap : Nat) (G : List En) : Prop := w.ownsRow 0 57 3 (.slice ao G.length cap) G.length (flat G)

theorem eql57 (a b c d e f : Int) (w : World) : Sem.run Try.prog (binOp BinOp.eql 57 (.agg #[.int .i64 a, .int .i64 b, .int .i64 c]) (.agg #[.int .i64 d, .int .i64 e, .int .i64 f])) w = .ok (.bool (decide (a = d) && decide (b = e) && decide (c = f))) w := by
  go_simp
  by_cases h1 : a = d <;> by_cases h2 : b = e <;> by_cases h3 : c = f <;> simp [h1, h2, h3]

/-- What Index tells. -/
def IsAt (G : List En) (x : En) (i : Int) : Prop := (0 ≤ i ↔ x ∈ G)

set_option maxRecDepth 100000 in
set_option maxHeartbeats 2000000 in
theorem index_any (ao : Option Addr) (cap : Nat) (G : List En) (x : En) (w : World) (h : ORow w ao cap G) (hm : G.length ≤ 1000000) :
    Calls Try.prog 33 #[.slice ao G.length cap, x.val] w fun e w' => ∃ i, e = .returned (.int .i64 i) ∧ IsAt G x i ∧ Below w.heap.size w w' := by
  obtain ⟨xw, xn, xt⟩ := x
  unfold En.val
  obtain ⟨w1, hw1, hb1, P1, hs1⟩ := one_new w [.int .i64 xw, .int .i64 xn, .int .i64 (xt : Int)] 57
  have HW : Hid _ := hw1
  clear hw1
  have h1 : ORow w1 ao cap G := owns_below h hb1
  have x0 := P1.cell (j := 0) rfl
  have x1 := P1.cell (j := 1) rfl
  have x2 := P1.cell (j := 2) rfl
  obtain ⟨n, HN⟩ : ∃ n, Hid (G.length = n) := ⟨_, rfl⟩
  rw [HN.out] at hm ⊢
  clear h
  go_enter Try.func33, Try.ntmps33
  go_wp2_with fail
  rw [HW.out]
  go_wp2_with fail
  go_loopw [8] (fun vi wr => ∃ (i : Nat), vi = .int .i64 (i : Int) ∧ i ≤ n ∧ (∀ k, k < i → nth G k ≠ ⟨xw, xn, xt⟩) ∧ ∃ q, wr = w1.drewN q) (fun vi _ => n - (intOf vi).toNat)
  case atStart => exact ⟨0, rfl, Nat.zero_le _, fun k hk => by omega, 0, rfl⟩
  case round =>
    obtain ⟨i, rfl, hi, hno, q, rfl⟩ := hrel
    have HNO : Hid _ := hno
    clear hno
    have HBQ : Hid (Below w.heap.size w (w1.drewN q)) := bel_drewN hb1 q
    by_cases hin : i < n
    · obtain ⟨b, cap', e1, hR⟩ := row_of h1 (by have := HN.out; omega)
      have e2 : ao = some ⟨b, 0, none⟩ ∧ cap = cap' := by simpa using e1
      obtain ⟨rfl, rfl⟩ := e2
      clear e1
      obtain ⟨y0, y1, y2⟩ := hR.cells (i := i) (by have := HN.out; omega)
      have hle := hR.le
      rw [HN.out] at hle
      obtain ⟨y, hy⟩ : ∃ y, nth G i = y := ⟨_, rfl⟩
      rw [hy] at y0 y1 y2
      have HY : Hid _ := hy
      clear hy hR
      obtain ⟨yw, yn, yt⟩ := y
      obtain ⟨B, hB⟩ : ∃ B, (decide (xw = yw) && decide (xn = yn) && decide ((xt : Int) = (yt : Int))) = B := ⟨_, rfl⟩
      have eq := eql57 xw xn (xt : Int) yw yn (yt : Int)
      rw [hB] at eq
      have HB : Hid _ := hB
      clear hB
      cases B with
      | true =>
        have he : (⟨yw, yn, yt⟩ : En) = ⟨xw, xn, xt⟩ := by have := HB.out; simp at this; simp; omega
        have FF : Hid (IsAt G ⟨xw, xn, xt⟩ (i : Int)) := ⟨fun _ => by rw [← he, ← HY.out]; exact nth_mem (by have := HN.out; omega), fun _ => by omega⟩
        clear he
        go_wp2_with fail
        go_quiet (fail)
        go_wp2_with fail
        go_ret
        exact ⟨i, rfl, FF.out, bel_drewN HBQ.out _⟩
      | false =>
        have he : (⟨yw, yn, yt⟩ : En) ≠ ⟨xw, xn, xt⟩ := fun e => by have := HB.out; simp at e; obtain ⟨rfl, rfl, rfl⟩ := e; simp at this
        have NO : Hid (∀ k, k < i + 1 → nth G k ≠ ⟨xw, xn, xt⟩) := fun k hk => (show k < i ∨ k = i by omega).elim (HNO.out k) (fun e => by rw [e, HY.out]; exact he)
        clear he
        go_wp2_with fail
        go_quiet (fail)
        go_wp2_with fail
        go_roundw
        case rel => exact ⟨i + 1, by go_num, hin, NO.out, _, rfl⟩
        case measure => simp [intOf]; omega
    · have FF : Hid (IsAt G ⟨xw, xn, xt⟩ (-1)) := ⟨fun h => by omega, fun h => by
        obtain ⟨k, hk, e⟩ := mem_nth h
        exact absurd e (HNO.out k (by have := HN.out; omega))⟩
      go_wp2_with fail
      go_ret
      exact ⟨-1, rfl, FF.out, HBQ.out⟩

set_option maxRecDepth 100000 in
set_option maxHeartbeats 2000000 in
theorem contains_any (ao : Option Addr) (cap : Nat) (G : List En) (x : En) (w : World) (h : ORow w ao cap G) (hm : G.length ≤ 1000000) :
    Calls Try.prog 29 #[.slice ao G.length cap, x.val] w fun e w' => e = .returned (.bool (decide (x ∈ G))) ∧ Below w.heap.size w w' := by
  obtain ⟨w1, hw1, hb1, P1, hs1⟩ := one_new w [.int .i64 x.wt, .int .i64 x.num, .int .i64 (x.turn : Int)] 57
  have c33 := index_any ao cap G x w1 (owns_below h hb1) hm
  have HW : Hid _ := hw1
  clear hw1 h
  unfold En.val at c33 ⊢
  have x0 := P1.cell (j := 0) rfl
  have x1 := P1.cell (j := 1) rfl
  have x2 := P1.cell (j := 2) rfl
  generalize hd : decide (x ∈ G) = d
  have hd2 : d = true ↔ x ∈ G := by rw [← hd]; exact decide_eq_true_iff
  have HD : Hid (d = true ↔ x ∈ G) := hd2
  clear hd2
  clear hd
  generalize G.length = n at *
  obtain ⟨xw, xn, xt⟩ := x
  simp only at *
  go_enter Try.func29, Try.ntmps29
  go_wp2_with fail
  rw [HW.out]
  go_wp2_with fail
  refine c33.mono ?_
  rintro e w2 ⟨i, rfl, hi, hb2⟩
  have hdi : decide (0 ≤ i) = d := by
    unfold IsAt at hi
    cases d with
    | true => exact decide_eq_true (hi.2 (HD.out.1 rfl))
    | false => exact decide_eq_false (fun h => by have := HD.out.2 (hi.1 h); cases this)
  have FF : Hid (Below w.heap.size w w2) := hb1.trans (hb2.mono hb1.size)
  clear c33 hi hb2
  by_cases h0 : 0 ≤ i
  · obtain rfl : d = true := by rw [← hdi]; exact decide_eq_true h0
    clear hdi
    go_wp2_with fail
    go_ret
    exact ⟨rfl, FF.out⟩
  · obtain rfl : d = false := by rw [← hdi]; exact decide_eq_false h0
    clear hdi
    go_wp2_with fail
    go_ret
    exact ⟨ret_bool (decide_eq_false (by omega)), FF.out⟩

set_option maxRecDepth 100000 in
set_option maxHeartbeats 2000000 in
theorem has_any (ao : Option Addr) (cap : Nat) (G : List En) (x : En) (w : World) (h : ORow w ao cap G) (hm : G.length ≤ 1000000) :
    Calls Try.prog 21 #[.slice ao G.length cap, x.val] w fun e w' => e = .returned (.bool (decide (x ∈ G))) ∧ Below w.heap.size w w' := by
  obtain ⟨w1, hw1, hb1, P1, hs1⟩ := one_new w [.int .i64 x.wt, .int .i64 x.num, .int .i64 (x.turn : Int)] 57
  have c29 := contains_any ao cap G x w1 (owns_below h hb1) hm
  have HW : Hid _ := hw1
  clear hw1 h
  unfold En.val at c29 ⊢
  have x0 := P1.cell (j := 0) rfl
  have x1 := P1.cell (j := 1) rfl
  have x2 := P1.cell (j := 2) rfl
  generalize decide (x ∈ G) = d at *
  generalize G.length = n at *
  obtain ⟨xw, xn, xt⟩ := x
  simp only at *
  go_enter Try.func21, Try.ntmps21
  go_wp2_with fail
  rw [HW.out]
  go_wp2_with fail
  refine c29.mono ?_
  rintro e w2 ⟨rfl, hb2⟩
  go_wp2_with fail
  go_ret
  exact ⟨rfl, hb1.trans (hb2.mono hb1.size)⟩
end Go.Proofs.Ytgimpolgagkffaa
