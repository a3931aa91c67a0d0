/- The walk of the document's Equal of levels that are alike. No condition but that they lie in memory. -/
import Derived.Test.YtbmijpjmdpdfkaaDoorNext
namespace Go.Proofs.YtbmijpjmdpdfkaaDoor
open Go.RowKit

theorem enter51 (args : Array Value) (w : World) : (callFunc 51 args).run Tryd.prog w = .ok (.enter 51 args) w := enter_of Tryd.func51 (by kernel_rfl) rfl args w

set_option maxRecDepth 100000 in
set_option maxHeartbeats 1000000 in
theorem requal_node (k n : Int) (args : List Lv) (ih : ∀ L ∈ args, ∀ (v v' : Value) (w : World) (B : Nat), B ≤ w.heap.size → In w (· < B) L v → In w (· < B) L v' → Calls Tryd.prog 51 #[v, v'] w fun e w' => e = .returned (.bool true) ∧ Below w.heap.size w w')
    (a a' : Option Addr) (c c' : Nat) (w : World) (B : Nat) (hB : B ≤ w.heap.size) (h : Node w (· < B) k n args a c) (h' : Node w (· < B) k n args a' c') :
    Calls Tryd.prog 51 #[.agg #[.int .i64 k, .int .i64 n, .slice a args.length c], .agg #[.int .i64 k, .int .i64 n, .slice a' args.length c']] w fun e w' => e = .returned (.bool true) ∧ Below w.heap.size w w' := by
  obtain ⟨w1, hw1, hb1, P1, Q1, hs1⟩ := two_new w [.int .i64 k, .int .i64 n, .slice a args.length c] [.int .i64 k, .int .i64 n, .slice a' args.length c'] 58 58
  have p0 := P1.cell (j := 0) rfl
  have p1 := P1.cell (j := 1) rfl
  have p2 := P1.cell (j := 2) rfl
  have q0 := Q1.cell (j := 0) rfl
  have q1 := Q1.cell (j := 1) rfl
  have q2 := Q1.cell (j := 2) rfl
  obtain ⟨len, hlen⟩ : ∃ len, args.length = len := ⟨_, rfl⟩
  have hle := h.le
  have hmx := h.max
  have HL : Hid (args.length = len) := hlen
  rw [hlen] at p2 q2 P1 Q1 hw1 hle
  rw [hlen]
  clear hlen
  go_enter Tryd.func51, Tryd.ntmps51
  go_wp2_with fail
  go_loopw [5] (fun i wr => ∃ j : Nat, i = .int .i64 (j : Int) ∧ j ≤ len ∧ Below w1.heap.size w1 wr) (fun i _ => len - (intOf i).toNat)
  case atStart => exact ⟨0, rfl, by omega, Below.refl _ _⟩
  case round =>
    obtain ⟨j, rfl, hj, hbr⟩ := hrel
    have P2 := P1.below hbr P1.lt
    have Q2 := Q1.below hbr Q1.lt
    have a2 := P2.cell (j := 2) rfl
    have b2 := Q2.cell (j := 2) rfl
    have hzr := hbr.size
    have hbw := hb1.trans (hbr.mono hb1.size)
    by_cases hjl : j < len
    · have hdj : decide ((j : Int) < (len : Int)) = true := decide_eq_true (by omega)
      obtain ⟨L, hL⟩ : ∃ L, args[j]? = some L := ⟨_, List.getElem?_eq_getElem (by rw [HL.out]; exact hjl)⟩
      have N1 := h.below hbw hB
      have N2 := h'.below hbw hB
      obtain ⟨b, off, k1, n1, args1, a1, c1, rfl, hb, rfl, x0, x1, x2, M1⟩ := N1.get hL
      obtain ⟨b', off', k2, n2, args2, a3, c2, rfl, hb', e2, y0, y1, y2, M2⟩ := N2.get hL
      simp only [Lv.mk.injEq] at e2
      obtain ⟨rfl, rfl, rfl⟩ := e2
      have hcall := ih _ (List.mem_of_getElem? hL) _ _ wr.drew B (by show B ≤ wr.heap.size; omega) (In.carry (w := wr) (w' := wr.drew) (S := (· < B)) (fun _ _ => rfl) (fun _ h => h) _ _ M1.is) (In.carry (w := wr) (w' := wr.drew) (S := (· < B)) (fun _ _ => rfl) (fun _ h => h) _ _ M2.is)
      have e5 : (0 : Int) ≤ (j : Int) := by omega
      have e6 : (j : Int) < (len : Int) := by omega
      go_wp2_with fail
      go_region_held3 (fun w' => w'.cell? ⟨w.heap.size, 2, none⟩ = some (.slice (some ⟨b, off, none⟩) len c) ∧ w'.cell? ⟨w.heap.size + 1, 2, none⟩ = some (.slice (some ⟨b', off', none⟩) len c') ∧ w'.cell? ⟨b, off + j * 3, none⟩ = some (.int .i64 k1) ∧ w'.cell? ⟨b, off + j * 3 + 1, none⟩ = some (.int .i64 n1) ∧ w'.cell? ⟨b, off + j * 3 + 2, none⟩ = some (.slice a1 args1.length c1) ∧ w'.cell? ⟨b', off' + j * 3, none⟩ = some (.int .i64 k1) ∧ w'.cell? ⟨b', off' + j * 3 + 1, none⟩ = some (.int .i64 n1) ∧ w'.cell? ⟨b', off' + j * 3 + 2, none⟩ = some (.slice a3 args1.length c2)) (go_keep)
        ((go_at_call 51; refine hcall.mono ?_; rintro e w5 ⟨rfl, hb5'⟩; have hb5 : Below wr.heap.size wr w5 := Below.trans (Below.refl _ _).drew hb5'; have z0 := ((bcell hb5).1 w.heap.size 2 (by omega)).trans a2; have z1 := ((bcell hb5).1 (w.heap.size + 1) 2 (by omega)).trans b2; have z2 := ((bcell hb5).1 b (off + j * 3) (by omega)).trans x0; have z3 := ((bcell hb5).1 b (off + j * 3 + 1) (by omega)).trans x1; have z4 := ((bcell hb5).1 b (off + j * 3 + 2) (by omega)).trans x2; have z5 := ((bcell hb5).1 b' (off' + j * 3) (by omega)).trans y0; have z6 := ((bcell hb5).1 b' (off' + j * 3 + 1) (by omega)).trans y1; have z7 := ((bcell hb5).1 b' (off' + j * 3 + 2) (by omega)).trans y2))
      go_wp2_with fail
      go_roundw
      case rel => exact ⟨j + 1, by simp, by omega, hbr.trans (hb5.mono (by omega))⟩
      case measure => simp [intOf]; omega
    · have hdj : decide ((j : Int) < (len : Int)) = false := decide_eq_false (by omega)
      go_wp2_with fail
      go_ret
      exact ⟨rfl, hbw⟩
theorem requal_same (L : Lv) : ∀ (v v' : Value) (w : World) (B : Nat), B ≤ w.heap.size → In w (· < B) L v → In w (· < B) L v' → Calls Tryd.prog 51 #[v, v'] w fun e w' => e = .returned (.bool true) ∧ Below w.heap.size w w' := by
  refine Lv.ind (P := fun L => ∀ (v v' : Value) (w : World) (B : Nat), B ≤ w.heap.size → In w (· < B) L v → In w (· < B) L v' → Calls Tryd.prog 51 #[v, v'] w fun e w' => e = .returned (.bool true) ∧ Below w.heap.size w w') ?_ L
  intro k n args ih v v' w B hB h h'
  obtain ⟨a, c, rfl, hN⟩ := h.node
  obtain ⟨a', c', rfl, hN'⟩ := h'.node
  exact requal_node k n args ih a a' c c' w B hB hN hN'
end Go.Proofs.YtbmijpjmdpdfkaaDoor
