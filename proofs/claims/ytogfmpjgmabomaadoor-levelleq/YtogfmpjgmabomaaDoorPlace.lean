/- The walks of level's places, place, pair. No condition but that telling holds what the program's text lays. -/
import Derived.Test.YtogfmpjgmabomaaDoorEval
namespace Go.Proofs.YtogfmpjgmabomaaDoor
open Go.RowKit

set_option maxRecDepth 100000 in
set_option maxHeartbeats 400000 in
theorem places_any (p : Nat) (w : World) (hp : p ≤ 4) : Calls Tryd.prog 54 #[.int .i64 (p : Int)] w fun e w' => e = .returned (.int .i64 ((3 ^ p : Nat) : Int)) ∧ w = w' := by
  go_enter Tryd.func54, Tryd.ntmps54
  go_wp2_with fail
  go_loop [3, 5] (fun x i => ∃ j : Nat, j ≤ p ∧ i = .int .i64 (j : Int) ∧ x = .int .i64 ((3 ^ j : Nat) : Int)) (fun _ i => p - (intOf i).toNat)
  case atStart => exact ⟨0, by omega, rfl, rfl⟩
  case round =>
    obtain ⟨j, hj, rfl, rfl⟩ := hrel
    by_cases hlt : j < p
    · have hb : 3 ^ j ≤ 81 := by
        have : 3 ^ j ≤ 3 ^ 4 := Nat.pow_le_pow_right (by decide) (by omega)
        omega
      have HP : Hid (3 ^ (j + 1) = 3 ^ j * 3) := Nat.pow_succ 3 j
      obtain ⟨y, hy⟩ : ∃ y, 3 ^ j = y := ⟨_, rfl⟩
      rw [hy] at hb ⊢
      have HY : Hid (3 ^ j = y) := hy
      clear hy
      go_wp2_with fail
      go_round
      case rel => exact ⟨j + 1, by omega, by go_num, by rw [HP.out, HY.out]; go_num⟩
      case measure => simp [intOf]; omega
    · obtain rfl : j = p := by omega
      go_wp2_with fail
      go_ret
      exact ⟨rfl, rfl⟩

/-- The value of a parameter at a place. -/
def tl (r : Nat) : Nat := if r = 0 then 0 else if r = 1 then 1 else 1099511627776
def pl (i k : Nat) : Nat := tl (i / 3 ^ k % 3)
theorem tl_le (r : Nat) : tl r ≤ 1099511627776 := by unfold tl; split <;> (try split) <;> omega

def pf (i j k : Nat) : Nat := if k < j then pl i k else 0
def prow (i j : Nat) : List Value := [.int .i64 ((pf i j 0 : Nat) : Int), .int .i64 ((pf i j 1 : Nat) : Int), .int .i64 ((pf i j 2 : Nat) : Int), .int .i64 ((pf i j 3 : Nat) : Int)]
theorem prow_set (i : Nat) {j : Nat} (hj : j < 4) {z : Int} (h : z = ((pl i j : Nat) : Int)) : (prow i j).set j (.int .i64 z) = prow i (j + 1) := by
  subst h
  match j, hj with
  | 0, _ => simp [prow, pf]
  | 1, _ => simp [prow, pf]
  | 2, _ => simp [prow, pf]
  | 3, _ => simp [prow, pf]
theorem prow_all (i : Nat) : prow i 4 = [.int .i64 ((pl i 0 : Nat) : Int), .int .i64 ((pl i 1 : Nat) : Int), .int .i64 ((pl i 2 : Nat) : Int), .int .i64 ((pl i 3 : Nat) : Int)] := by simp [prow, pf]

set_option maxRecDepth 100000 in
set_option maxHeartbeats 400000 in
theorem place_any (i : Nat) (hi : i ≤ 1000) (w : World) (hT : Tabs w) :
    Calls Tryd.prog 55 #[.int .i64 (i : Int)] w fun e w' => e = .returned (.agg #[.int .i64 ((pl i 0 : Nat) : Int), .int .i64 ((pl i 1 : Nat) : Int), .int .i64 ((pl i 2 : Nat) : Int), .int .i64 ((pl i 3 : Nat) : Int)]) ∧ Below w.heap.size w w' := by
  go_enter Tryd.func55, Tryd.ntmps55
  go_wp2_with fail
  go_loopw [0, 4] (fun x y wr => ∃ (j : Nat), y = .int .i64 (j : Int) ∧ x = .int .i64 ((i / 3 ^ j : Nat) : Int) ∧ j ≤ 4 ∧ Blk wr w.heap.size 53 (prow i j) ∧ Below w.heap.size w wr) (fun _ y _ => 4 - (intOf y).toNat)
  case atStart => exact ⟨0, rfl, by simp, by omega, Blk.new _ _ _, (Below.refl _ _).alloc (Nat.le_refl _) _⟩
  case round =>
    obtain ⟨j, rfl, rfl, hj4, hb, hbel⟩ := hrel
    by_cases hlt : j < 4
    · have HD : Hid (i / 3 ^ (j + 1) = i / 3 ^ j / 3 ∧ pl i j = tl (i / 3 ^ j % 3)) := ⟨by rw [Nat.pow_succ, Nat.div_div_eq_div_mul], rfl⟩
      have hle : i / 3 ^ j ≤ 1000 := Nat.le_trans (Nat.div_le_self _ _) hi
      obtain ⟨x, hx⟩ : ∃ x, i / 3 ^ j = x := ⟨_, rfl⟩
      rw [hx] at HD hle ⊢
      clear hx
      have f0 := hb.frozen j
      obtain ⟨y, hy⟩ : ∃ y, (prow i j)[j]? = some y := ⟨_, List.getElem?_eq_getElem (by simp [prow]; omega)⟩
      have c0 := hb.cell hy
      clear hy
      have hT' := hT.on hbel
      have t0 := hT'.tells 0 (by decide)
      have t1 := hT'.tells 1 (by decide)
      have t2 := hT'.tells 2 (by decide)
      simp at t0 t1 t2
      have hcs : x % 3 = 0 ∨ x % 3 = 1 ∨ x % 3 = 2 := by omega
      rcases hcs with hr | hr | hr
      all_goals
        have hr' : ((x : Int) % 3) = ((x % 3 : Nat) : Int) := by omega
        rw [hr] at hr'
        have HR : Hid (x % 3 = _) := hr
        clear hr
        go_wp2_with fail
        go_roundw
        case rel => exact ⟨j + 1, by go_num, by rw [HD.out.1]; go_num, by omega, by rw [← prow_set i hlt (by rw [HD.out.2, HR.out])]; exact hb.set j _, hbel.setCell (Nat.le_refl _) _⟩
        case measure => simp [intOf]; omega
    · obtain rfl : j = 4 := by omega
      rw [prow_all] at hb
      have c0 := hb.cell (j := 0) rfl
      have c1 := hb.cell (j := 1) rfl
      have c2 := hb.cell (j := 2) rfl
      have c3 := hb.cell (j := 3) rfl
      have f0 := hb.frozen 0
      have f1 := hb.frozen 1
      have f2 := hb.frozen 2
      have f3 := hb.frozen 3
      go_wp2_with fail
      exact bodyPost_ret (v := .agg #[.int .i64 ((pl i 0 : Nat) : Int), .int .i64 ((pl i 1 : Nat) : Int), .int .i64 ((pl i 2 : Nat) : Int), .int .i64 ((pl i 3 : Nat) : Int)]) (by simp [results, Tryd.results55, go_sem, c0, c1, c2, c3]) rfl ⟨rfl, (((hbel.setCell (Nat.le_refl _) _).setCell (Nat.le_refl _) _).setCell (Nat.le_refl _) _).setCell (Nat.le_refl _) _⟩

set_option maxRecDepth 100000 in
theorem atMost_any (x y : Int) (w : World) : Calls Tryd.prog 41 #[.agg #[.int .i64 x, .int .i64 y]] w fun e w' => e = .returned (.bool (decide (x ≤ y))) ∧ Below w.heap.size w w' := by
  go_enter Tryd.func41, Tryd.ntmps41
  go_wp2_with fail
  go_ret
  exact ⟨rfl, (Below.refl _ _).alloc (Nat.le_refl _) _⟩
set_option maxRecDepth 100000 in
theorem alike_any (x y : Int) (w : World) : Calls Tryd.prog 43 #[.agg #[.int .i64 x, .int .i64 y]] w fun e w' => e = .returned (.bool (x == y)) ∧ Below w.heap.size w w' := by
  go_enter Tryd.func43, Tryd.ntmps43
  go_wp2_with fail
  go_ret
  exact ⟨rfl, (Below.refl _ _).alloc (Nat.le_refl _) _⟩
end Go.Proofs.YtogfmpjgmabomaaDoor
