/- The walk of the document's Equal of levels that are alike. No condition but that they lie in memory. -/
import Derived.Test.YtkbpmpcbajnmlaaDoorTm
import Derived.Test.YtkbpmpcbajnmlaaDoorRw
import Derived.Deep.RegionHeld3
import Derived.Test.YtkbpmpcbajnmlaaDoorProg
import Derived.Test.YtkbpmpcbajnmlaaDoorTm3
namespace Go.Proofs.YtkbpmpcbajnmlaaDoor
open Go.RowKit

set_option maxRecDepth 100000 in
set_option maxHeartbeats 1000000 in
theorem requal_node (k n : Int) (args : List Lv) (ih : ∀ L ∈ args, ∀ (v v' : Value) (w : World) (B : Nat), B ≤ w.heap.size → In w (· < B) L v → In w (· < B) L v' → Calls Tryd.prog 16 #[v, v'] w fun e w' => e = .returned (.bool true) ∧ Below w.heap.size w w')
    (a a' : Option Addr) (c c' : Nat) (w : World) (B : Nat) (hB : B ≤ w.heap.size) (h : Node w (· < B) k n args a c) (h' : Node w (· < B) k n args a' c') :
    Calls Tryd.prog 16 #[.agg #[.int .i64 k, .int .i64 n, .slice a args.length c], .agg #[.int .i64 k, .int .i64 n, .slice a' args.length c']] w fun e w' => e = .returned (.bool true) ∧ Below w.heap.size w w' := by
  obtain ⟨w1, hw1, hb1, P1, Q1, hs1⟩ := two_newG w [.int .i64 k, .int .i64 n, .slice a args.length c] [.int .i64 k, .int .i64 n, .slice a' args.length c'] 27 27
  have p0 := P1.cell (j := 0) rfl
  have p1 := P1.cell (j := 1) rfl
  have p2 := P1.cell (j := 2) rfl
  have q0 := Q1.cell (j := 0) rfl
  have q1 := Q1.cell (j := 1) rfl
  have q2 := Q1.cell (j := 2) rfl
  obtain ⟨len, hlen⟩ : ∃ len, args.length = len := ⟨_, rfl⟩
  have hle := h.le
  have hmx := h.max
  have HL : Hid (args.length = len) := hlen
  rw [hlen] at p2 q2 P1 Q1 hw1 hle
  rw [hlen]
  clear hlen
  go_enter Tryd.func16, Tryd.ntmps16
  go_wp2_with fail
  go_loopw [5] (fun i wr => ∃ j : Nat, i = .int .i64 (j : Int) ∧ j ≤ len ∧ Below w1.heap.size w1 wr) (fun i _ => len - (intOf i).toNat)
  case atStart => exact ⟨0, rfl, by omega, Below.refl _ _⟩
  case round =>
    obtain ⟨j, rfl, hj, hbr⟩ := hrel
    have P2 := P1.below hbr P1.lt
    have Q2 := Q1.below hbr Q1.lt
    have a2 := P2.cell (j := 2) rfl
    have b2 := Q2.cell (j := 2) rfl
    have hzr := hbr.size
    have hbw := hb1.trans (hbr.mono hb1.size)
    by_cases hjl : j < len
    · have hdj : decide ((j : Int) < (len : Int)) = true := decide_eq_true (by omega)
      obtain ⟨L, hL⟩ : ∃ L, args[j]? = some L := ⟨_, List.getElem?_eq_getElem (by rw [HL.out]; exact hjl)⟩
      have N1 := h.below hbw hB
      have N2 := h'.below hbw hB
      obtain ⟨b, off, k1, n1, args1, a1, c1, rfl, hb, rfl, x0, x1, x2, M1⟩ := N1.get hL
      obtain ⟨b', off', k2, n2, args2, a3, c2, rfl, hb', e2, y0, y1, y2, M2⟩ := N2.get hL
      simp only [Lv.mk.injEq] at e2
      obtain ⟨rfl, rfl, rfl⟩ := e2
      have hcall := ih _ (List.mem_of_getElem? hL) _ _ wr.drew B (by show B ≤ wr.heap.size; omega) (In.carry (w := wr) (w' := wr.drew) (S := (· < B)) (fun _ _ => rfl) (fun _ h => h) _ _ M1.is) (In.carry (w := wr) (w' := wr.drew) (S := (· < B)) (fun _ _ => rfl) (fun _ h => h) _ _ M2.is)
      have e5 : (0 : Int) ≤ (j : Int) := by omega
      have e6 : (j : Int) < (len : Int) := by omega
      go_wp2_with fail
      go_region_held3 (fun w' => w'.cell? ⟨w.heap.size, 2, none⟩ = some (.slice (some ⟨b, off, none⟩) len c) ∧ w'.cell? ⟨w.heap.size + 1, 2, none⟩ = some (.slice (some ⟨b', off', none⟩) len c') ∧ w'.cell? ⟨b, off + j * 3, none⟩ = some (.int .i64 k1) ∧ w'.cell? ⟨b, off + j * 3 + 1, none⟩ = some (.int .i64 n1) ∧ w'.cell? ⟨b, off + j * 3 + 2, none⟩ = some (.slice a1 args1.length c1) ∧ w'.cell? ⟨b', off' + j * 3, none⟩ = some (.int .i64 k1) ∧ w'.cell? ⟨b', off' + j * 3 + 1, none⟩ = some (.int .i64 n1) ∧ w'.cell? ⟨b', off' + j * 3 + 2, none⟩ = some (.slice a3 args1.length c2)) (go_keep)
        ((go_at_call 16; refine hcall.mono ?_; rintro e w5 ⟨rfl, hb5'⟩; have hb5 : Below wr.heap.size wr w5 := Below.trans (Below.refl _ _).drew hb5'; have z0 := ((bcell hb5).1 w.heap.size 2 (by omega)).trans a2; have z1 := ((bcell hb5).1 (w.heap.size + 1) 2 (by omega)).trans b2; have z2 := ((bcell hb5).1 b (off + j * 3) (by omega)).trans x0; have z3 := ((bcell hb5).1 b (off + j * 3 + 1) (by omega)).trans x1; have z4 := ((bcell hb5).1 b (off + j * 3 + 2) (by omega)).trans x2; have z5 := ((bcell hb5).1 b' (off' + j * 3) (by omega)).trans y0; have z6 := ((bcell hb5).1 b' (off' + j * 3 + 1) (by omega)).trans y1; have z7 := ((bcell hb5).1 b' (off' + j * 3 + 2) (by omega)).trans y2))
      go_wp2_with fail
      go_roundw
      case rel => exact ⟨j + 1, by simp, by omega, hbr.trans (hb5.mono (by omega))⟩
      case measure => simp [intOf]; omega
    · have hdj : decide ((j : Int) < (len : Int)) = false := decide_eq_false (by omega)
      go_wp2_with fail
      go_ret
      exact ⟨rfl, hbw⟩

theorem requal_same (L : Lv) : ∀ (v v' : Value) (w : World) (B : Nat), B ≤ w.heap.size → In w (· < B) L v → In w (· < B) L v' → Calls Tryd.prog 16 #[v, v'] w fun e w' => e = .returned (.bool true) ∧ Below w.heap.size w w' := by
  refine Lv.ind (P := fun L => ∀ (v v' : Value) (w : World) (B : Nat), B ≤ w.heap.size → In w (· < B) L v → In w (· < B) L v' → Calls Tryd.prog 16 #[v, v'] w fun e w' => e = .returned (.bool true) ∧ Below w.heap.size w w') ?_ L
  intro k n args ih v v' w B hB h h'
  obtain ⟨a, c, rfl, hN⟩ := h.node
  obtain ⟨a', c', rfl, hN'⟩ := h'.node
  exact requal_node k n args ih a a' c c' w B hB hN hN'

end Go.Proofs.YtkbpmpcbajnmlaaDoor

/- The walks of the document's Equal of terms that are alike. No condition but that they lie in memory. -/
namespace Go.Proofs.YtkbpmpcbajnmlaaDoor
open Go.RowKit

/-- Alike, wherever they lie. -/
inductive Eqv : Tr → Tr → Prop
  | mk {T U : Tr} : T.k = U.k → T.n = U.n → T.s = U.s → T.ls = U.ls → T.args.length = U.args.length → (∀ (i : Nat) (A B : Tr), T.args[i]? = some A → U.args[i]? = some B → Eqv A B) → Eqv T U

theorem enter17 (args : Array Value) (w : World) : (callFunc 17 args).run Tryd.prog w = .ok (.enter 17 args) w := enter_of Tryd.func17 (by kernel_rfl) rfl args w

set_option maxRecDepth 100000 in
set_option maxHeartbeats 2000000 in
theorem tequal_node (T U : Tr) (he : Eqv T U) (ih : ∀ L ∈ T.args, ∀ (V : Tr) (w : World) (B : Nat), Eqv L V → B ≤ w.heap.size → TIn w (· < B) L → TIn w (· < B) V → Calls Tryd.prog 17 #[L.val, V.val] w fun e w' => e = .returned (.bool true) ∧ Below w.heap.size w w')
    (w : World) (B : Nat) (hB : B ≤ w.heap.size) (h : TIn w (· < B) T) (h' : TIn w (· < B) U) :
    Calls Tryd.prog 17 #[T.val, U.val] w fun e w' => e = .returned (.bool true) ∧ Below w.heap.size w w' := by
  obtain ⟨e1, e2, e3, e4, e5, e6⟩ : T.k = U.k ∧ T.n = U.n ∧ T.s = U.s ∧ T.ls = U.ls ∧ T.args.length = U.args.length ∧ (∀ (i : Nat) (A B : Tr), T.args[i]? = some A → U.args[i]? = some B → Eqv A B) := by
    cases he with | mk a b c d e f => exact ⟨a, b, c, d, e, f⟩
  have hN := tin_iff.1 h
  have hN' := tin_iff.1 h'
  have lv := hN.lv
  have lv' := hN'.lv
  rw [← e4] at lv'
  unfold Tr.val
  rw [← e1, ← e2, ← e3, ← e4, ← e5]
  obtain ⟨w1, hw1, hb1, P1, Q1, hs1⟩ := two_newG w [.int .i64 T.k, .int .i64 T.n, .string T.s, .slice T.la T.ls.length T.lc, .slice T.a T.args.length T.c] [.int .i64 T.k, .int .i64 T.n, .string T.s, .slice U.la T.ls.length U.lc, .slice U.a T.args.length U.c] 33 33
  have HE : Hid (U.args.length = T.args.length) := e5.symm
  clear e1 e2 e3 e4 e5 he
  have hle1 := lv.le
  have hmx1 := lv.max
  have hle2 := hN.le
  have hmx2 := hN.max
  obtain ⟨ll, hll⟩ : ∃ ll, T.ls.length = ll := ⟨_, rfl⟩
  obtain ⟨al, hal⟩ : ∃ al, T.args.length = al := ⟨_, rfl⟩
  have HL : Hid (T.ls.length = ll ∧ T.args.length = al) := ⟨hll, hal⟩
  rw [hll, hal] at P1 Q1 hw1
  rw [hll] at hle1
  rw [hal] at hle2
  rw [hll, hal]
  clear hll hal
  have p0 := P1.cell (j := 0) rfl
  have p1 := P1.cell (j := 1) rfl
  have p2 := P1.cell (j := 2) rfl
  have p3 := P1.cell (j := 3) rfl
  have p4 := P1.cell (j := 4) rfl
  have q0 := Q1.cell (j := 0) rfl
  have q1 := Q1.cell (j := 1) rfl
  have q2 := Q1.cell (j := 2) rfl
  have q3 := Q1.cell (j := 3) rfl
  have q4 := Q1.cell (j := 4) rfl
  go_enter Tryd.func17, Tryd.ntmps17
  go_wp2_with fail
  go_loopw [5] (fun i wr => ∃ j : Nat, i = .int .i64 (j : Int) ∧ j ≤ ll ∧ Below w1.heap.size w1 wr) (fun i _ => ll - (intOf i).toNat)
  case atStart => exact ⟨0, rfl, by omega, Below.refl _ _⟩
  case round =>
    obtain ⟨j, rfl, hj, hbr⟩ := hrel
    have P2 := P1.below hbr P1.lt
    have Q2 := Q1.below hbr Q1.lt
    have a2 := P2.cell (j := 3) rfl
    have b2 := Q2.cell (j := 3) rfl
    have hzr := hbr.size
    have hbw := hb1.trans (hbr.mono hb1.size)
    by_cases hjl : j < ll
    · have hdj : decide ((j : Int) < (ll : Int)) = true := decide_eq_true (by omega)
      obtain ⟨L, hL⟩ : ∃ L, T.ls[j]? = some L := ⟨_, List.getElem?_eq_getElem (by rw [HL.out.1]; exact hjl)⟩
      have N1 := lv.below hbw hB
      have N2 := lv'.below hbw hB
      obtain ⟨b, off, k1, n1, args1, a1, c1, la1, hb, rfl, x0, x1, x2, M1⟩ := N1.get hL
      obtain ⟨b', off', k2, n2, args2, a3, c2, la2, hb', ee, y0, y1, y2, M2⟩ := N2.get hL
      simp only [Lv.mk.injEq] at ee
      obtain ⟨rfl, rfl, rfl⟩ := ee
      rw [la1] at a2
      rw [la2] at b2
      clear la1 la2
      have hcall := requal_same _ _ _ wr.drew B (by show B ≤ wr.heap.size; omega) (In.carry (w := wr) (w' := wr.drew) (S := (· < B)) (fun _ _ => rfl) (fun _ h => h) _ _ M1.is) (In.carry (w := wr) (w' := wr.drew) (S := (· < B)) (fun _ _ => rfl) (fun _ h => h) _ _ M2.is)
      have e5 : (0 : Int) ≤ (j : Int) := by omega
      have e6' : (j : Int) < (ll : Int) := by omega
      go_wp2_with fail
      go_region_held3 (fun w' => w'.cell? ⟨w.heap.size, 3, none⟩ = some (.slice (some ⟨b, off, none⟩) ll T.lc) ∧ w'.cell? ⟨w.heap.size + 1, 3, none⟩ = some (.slice (some ⟨b', off', none⟩) ll U.lc) ∧ w'.cell? ⟨b, off + j * 3, none⟩ = some (.int .i64 k1) ∧ w'.cell? ⟨b, off + j * 3 + 1, none⟩ = some (.int .i64 n1) ∧ w'.cell? ⟨b, off + j * 3 + 2, none⟩ = some (.slice a1 args1.length c1) ∧ w'.cell? ⟨b', off' + j * 3, none⟩ = some (.int .i64 k1) ∧ w'.cell? ⟨b', off' + j * 3 + 1, none⟩ = some (.int .i64 n1) ∧ w'.cell? ⟨b', off' + j * 3 + 2, none⟩ = some (.slice a3 args1.length c2)) (go_keep)
        ((go_at_call 16; refine hcall.mono ?_; rintro e w5 ⟨rfl, hb5'⟩; have hb5 : Below wr.heap.size wr w5 := Below.trans (Below.refl _ _).drew hb5'; have z0 := ((bcell hb5).1 w.heap.size 3 (by omega)).trans a2; have z1 := ((bcell hb5).1 (w.heap.size + 1) 3 (by omega)).trans b2; have z2 := ((bcell hb5).1 b (off + j * 3) (by omega)).trans x0; have z3 := ((bcell hb5).1 b (off + j * 3 + 1) (by omega)).trans x1; have z4 := ((bcell hb5).1 b (off + j * 3 + 2) (by omega)).trans x2; have z5 := ((bcell hb5).1 b' (off' + j * 3) (by omega)).trans y0; have z6 := ((bcell hb5).1 b' (off' + j * 3 + 1) (by omega)).trans y1; have z7 := ((bcell hb5).1 b' (off' + j * 3 + 2) (by omega)).trans y2))
      go_wp2_with fail
      go_roundw
      case rel => exact ⟨j + 1, by simp, by omega, hbr.trans (hb5.mono (by omega))⟩
      case measure => simp [intOf]; omega
    · have hdj : decide ((j : Int) < (ll : Int)) = false := decide_eq_false (by omega)
      go_wp2_with fail
      obtain ⟨wo, hwo⟩ : ∃ wo, wo = wr := ⟨_, rfl⟩
      subst hwo
      clear hdj hjl a2 b2 P2 Q2
      go_loopw [6] (fun i wr => ∃ j : Nat, i = .int .i64 (j : Int) ∧ j ≤ al ∧ Below w1.heap.size w1 wr) (fun i _ => al - (intOf i).toNat)
      case atStart => exact ⟨0, rfl, by omega, hbr⟩
      case round =>
        clear hzr hbw hbr
        obtain ⟨j, rfl, hj, hbr⟩ := hrel
        have P2 := P1.below hbr P1.lt
        have Q2 := Q1.below hbr Q1.lt
        have a2 := P2.cell (j := 4) rfl
        have b2 := Q2.cell (j := 4) rfl
        have hzr := hbr.size
        have hbw := hb1.trans (hbr.mono hb1.size)
        by_cases hjl : j < al
        · have hdj : decide ((j : Int) < (al : Int)) = true := decide_eq_true (by omega)
          obtain ⟨L, hL⟩ : ∃ L, T.args[j]? = some L := ⟨_, List.getElem?_eq_getElem (by rw [HL.out.2]; exact hjl)⟩
          obtain ⟨V, hV⟩ : ∃ V, U.args[j]? = some V := ⟨_, List.getElem?_eq_getElem (by rw [HE.out, HL.out.2]; exact hjl)⟩
          obtain ⟨ta, hbT, cL, tL⟩ := (h.below hbw hB).get hL
          obtain ⟨ua, hbU, cV, tV⟩ := (h'.below hbw hB).get hV
          rw [ta] at a2
          rw [ua] at b2
          clear ta ua
          have hcall := ih L (List.mem_of_getElem? hL) V wr.drew B (e6 j L V hL hV) (by show B ≤ wr.heap.size; omega) tL.drew tV.drew
          unfold Tr.val at hcall
          have x0 := cL.c0
          have x1 := cL.c1
          have x2 := cL.c2
          have x3 := cL.c3
          have x4 := cL.c4
          have y0 := cV.c0
          have y1 := cV.c1
          have y2 := cV.c2
          have y3 := cV.c3
          have y4 := cV.c4
          generalize T.b = tb at *
          generalize T.off = toff at *
          generalize U.b = ub at *
          generalize U.off = uoff at *
          have e5 : (0 : Int) ≤ (j : Int) := by omega
          have e6' : (j : Int) < (al : Int) := by omega
          go_wp2_with fail
          go_region_held3 (fun w' => w'.cell? ⟨w.heap.size, 4, none⟩ = some (.slice (some ⟨tb, toff, none⟩) al T.c) ∧ w'.cell? ⟨w.heap.size + 1, 4, none⟩ = some (.slice (some ⟨ub, uoff, none⟩) al U.c) ∧ w'.cell? ⟨tb, toff + j * 5, none⟩ = some (.int .i64 L.k) ∧ w'.cell? ⟨tb, toff + j * 5 + 1, none⟩ = some (.int .i64 L.n) ∧ w'.cell? ⟨tb, toff + j * 5 + 2, none⟩ = some (.string L.s) ∧ w'.cell? ⟨tb, toff + j * 5 + 3, none⟩ = some (.slice L.la L.ls.length L.lc) ∧ w'.cell? ⟨tb, toff + j * 5 + 4, none⟩ = some (.slice L.a L.args.length L.c) ∧ w'.cell? ⟨ub, uoff + j * 5, none⟩ = some (.int .i64 V.k) ∧ w'.cell? ⟨ub, uoff + j * 5 + 1, none⟩ = some (.int .i64 V.n) ∧ w'.cell? ⟨ub, uoff + j * 5 + 2, none⟩ = some (.string V.s) ∧ w'.cell? ⟨ub, uoff + j * 5 + 3, none⟩ = some (.slice V.la V.ls.length V.lc) ∧ w'.cell? ⟨ub, uoff + j * 5 + 4, none⟩ = some (.slice V.a V.args.length V.c)) (go_keep)
            ((go_at_call 17; refine hcall.mono ?_; rintro e w5 ⟨rfl, hb5'⟩; have hb5 : Below wr.heap.size wr w5 := Below.trans (Below.refl _ _).drew hb5'; have z0 := ((bcell hb5).1 w.heap.size 4 (by omega)).trans a2; have z1 := ((bcell hb5).1 (w.heap.size + 1) 4 (by omega)).trans b2; have z2 := ((bcell hb5).1 tb (toff + j * 5) (by omega)).trans x0; have z3 := ((bcell hb5).1 tb (toff + j * 5 + 1) (by omega)).trans x1; have z4 := ((bcell hb5).1 tb (toff + j * 5 + 2) (by omega)).trans x2; have z5 := ((bcell hb5).1 tb (toff + j * 5 + 3) (by omega)).trans x3; have z6 := ((bcell hb5).1 tb (toff + j * 5 + 4) (by omega)).trans x4; have z7 := ((bcell hb5).1 ub (uoff + j * 5) (by omega)).trans y0; have z8 := ((bcell hb5).1 ub (uoff + j * 5 + 1) (by omega)).trans y1; have z9 := ((bcell hb5).1 ub (uoff + j * 5 + 2) (by omega)).trans y2; have z10 := ((bcell hb5).1 ub (uoff + j * 5 + 3) (by omega)).trans y3; have z11 := ((bcell hb5).1 ub (uoff + j * 5 + 4) (by omega)).trans y4))
          go_wp2_with fail
          go_roundw
          case rel => exact ⟨j + 1, by simp, by omega, hbr.trans (hb5.mono (by omega))⟩
          case measure => simp [intOf]; omega
        · have hdj : decide ((j : Int) < (al : Int)) = false := decide_eq_false (by omega)
          go_wp2_with fail
          go_ret
          exact ⟨rfl, hbw⟩

theorem tequal_same (T : Tr) : ∀ (U : Tr) (w : World) (B : Nat), Eqv T U → B ≤ w.heap.size → TIn w (· < B) T → TIn w (· < B) U → Calls Tryd.prog 17 #[T.val, U.val] w fun e w' => e = .returned (.bool true) ∧ Below w.heap.size w w' := by
  refine Tr.ind' (P := fun T => ∀ (U : Tr) (w : World) (B : Nat), Eqv T U → B ≤ w.heap.size → TIn w (· < B) T → TIn w (· < B) U → Calls Tryd.prog 17 #[T.val, U.val] w fun e w' => e = .returned (.bool true) ∧ Below w.heap.size w w') ?_ T
  intro T ih U w B he hB h h'
  exact tequal_node T U he ih w B hB h h'

end Go.Proofs.YtkbpmpcbajnmlaaDoor
