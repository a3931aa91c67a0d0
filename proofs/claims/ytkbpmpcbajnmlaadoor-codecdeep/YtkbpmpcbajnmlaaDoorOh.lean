/- The walk of the program's TakeLevel. No condition but that the bytes can be read, are no longer than 2^40, and that the tables are laid. -/
import Derived.Test.YtkbpmpcbajnmlaaDoorLev4
import Derived.Deep.RegionHeld3
import Derived.Test.YtkbpmpcbajnmlaaDoorWr2
import Derived.Test.YtkbpmpcbajnmlaaDoorEn3
import Derived.Test.YtkbpmpcbajnmlaaDoorTk3
namespace Go.Proofs.YtkbpmpcbajnmlaaDoor
open Go.RowKit

/-- What TakeLevel tells. -/
def TkL (w : World) (n : Nat) (res : Er (Lv × Bs)) (x : Ending) (w' : World) : Prop :=
  Below w.heap.size w w' ∧ match res with
  | .bad c => x = .returned (.tuple #[.agg #[.int .i64 0, .int .i64 0, .slice none 0 0], .int .i64 0, .int .i64 (c : Int)]) ∧ c ≠ 0 ∧ c ≤ 30
  | .ok y => ∃ k m ao l cap, x = .returned (.tuple #[.agg #[.int .i64 k, .int .i64 m, .slice ao l cap], .int .i64 ((n : Int) - (y.2.length : Int)), .int .i64 0]) ∧ LIs w' (fun b => w.heap.size ≤ b ∧ b < w'.heap.size) y.1 [.int .i64 k, .int .i64 m, .slice ao l cap]

set_option maxRecDepth 100000 in
set_option maxHeartbeats 2000000 in
theorem take28 (ao : Option Addr) (n cap : Nat) (bs : Bs) (w : World) (ht : Tabs w) (h : RdB w w.heap.size ao n cap bs) : Calls Tryd.prog 28 #[.slice ao n cap, .func (.func 29) #[] #[]] w (TkL w n (rLevel bs)) := by
  obtain ⟨w1, hw1, hb1, P1, Q1, hs1⟩ := two_newG w [.int .i64 0, .int .i64 0, .slice none 0 0] [.slice ao n cap, .int .i64 0] 27 83
  have K1 : Keep w w1 (fun _ => False) := Keep.of_below hb1 (Nat.le_refl _)
  have R1 : RSx w1 w.heap.size (w.heap.size + 1) (.ok bs) := ⟨ao, n, cap, Q1, h.keep K1 (fun _ s => s.elim), by omega, by omega⟩
  have hL := level_any w.heap.size (w.heap.size + 1) (.ok bs) w1 (ht.keep K1 (fun _ s => s.elim)) ht.lt R1
  change Calls Tryd.prog 29 _ _ (LvP _ _ _ (rLevel bs)) at hL
  have HW : Hid _ := hw1
  clear hw1
  go_enter Tryd.func28, Tryd.ntmps28
  go_wp2_with fail
  have hw1 := HW.out
  rw [hw1]
  refine hL.mono ?_
  rintro x w2 ⟨L, k, m, la, l, lcap, rfl, R2, O2, I2, K2⟩
  clear hL
  have P2 := P1.keep K2 (by omega)
  cases hres : rLevel bs with
  | bad c =>
    rw [hres] at R2
    obtain ⟨hc0, bs', ao', n', cap', B2, D2, _, hc30⟩ := R2
    have K3 : Keep w2 (w2.alloc (.cells #[.int .i64 k, .int .i64 m, .slice la l lcap] 27)) (fun _ => False) := (Keep.refl w2 _).alloc _
    have e1' := (B2.keep K3 id).cell (j := 1) rfl
    have hd : ((c : Int) == 0) = false := beq_eq_false_iff_ne.2 (by omega)
    clear hw1
    go_wp2_with fail
    obtain ⟨w3, hw3⟩ : ∃ w3, w2.alloc (.cells #[.int .i64 k, .int .i64 m, .slice la l lcap] 27) = w3 := ⟨_, rfl⟩
    rw [hw3] at K3 ⊢
    clear hw3 e1'
    have B3 := B2.keep K3 id
    have P3 := P2.keep K3 id
    have e1 := B3.cell (j := 1) rfl
    have p0 := P3.cell (j := 0) rfl
    have p1 := P3.cell (j := 1) rfl
    have p2 := P3.cell (j := 2) rfl
    have f0 := P3.frozen 0
    have f1 := P3.frozen 1
    have f2 := P3.frozen 2
    have z2 := K2.size
    have z3 := K3.size
    have hne : w.heap.size ≠ w.heap.size + 1 := by omega
    obtain ⟨P4, K4⟩ := st3G P3 (.int .i64 0) (.int .i64 0) (.slice none 0 0)
    have s0 := P4.cell (j := 0) rfl
    have s1 := P4.cell (j := 1) rfl
    have s2 := P4.cell (j := 2) rfl
    go_region_held3 (fun w' => w'.cell? ⟨w.heap.size, 0, none⟩ = some (.int .i64 0) ∧ w'.cell? ⟨w.heap.size, 1, none⟩ = some (.int .i64 0) ∧ w'.cell? ⟨w.heap.size, 2, none⟩ = some (.slice none 0 0) ∧ w'.cell? ⟨w.heap.size + 1, 1, none⟩ = some (.int .i64 (c : Int))) (go_keep) (fail)
    go_wp2_with fail
    refine bodyPost_ret (v := .tuple #[.agg #[.int .i64 0, .int .i64 0, .slice none 0 0], .int .i64 0, .int .i64 (c : Int)]) (by simp [results, Tryd.results28, go_sem, s0, s1, s2]) rfl ⟨?_, ?_⟩
    · exact ((((K1.mono (fun _ s => s.elim)).trans K2 (fun i hi s => by omega)).trans K3 (fun i hi s => s.elim)).trans K4 (fun i hi s => by omega)).drew.below (S := fun _ => False) (Nat.le_refl _) (fun _ s => s.elim)
    · rw [hres]; exact ⟨rfl, hc0, hc30⟩
  | ok y =>
    rw [hres] at R2
    obtain ⟨ao', n', cap', B2, D2, _, _⟩ := R2
    obtain rfl := O2 y hres
    have hlen := D2.rd.len
    have K3 : Keep w2 (w2.alloc (.cells #[.int .i64 k, .int .i64 m, .slice la l lcap] 27)) (fun _ => False) := (Keep.refl w2 _).alloc _
    have X3' := Blk.new w2 27 [.int .i64 k, .int .i64 m, .slice la l lcap]
    have e1' := (B2.keep K3 id).cell (j := 1) rfl
    clear hw1
    go_wp2_with fail
    obtain ⟨w3, hw3⟩ : ∃ w3, w2.alloc (.cells #[.int .i64 k, .int .i64 m, .slice la l lcap] 27) = w3 := ⟨_, rfl⟩
    have X3 : Blk w3 w2.heap.size 27 [.int .i64 k, .int .i64 m, .slice la l lcap] := by rw [← hw3]; exact X3'
    rw [hw3] at K3 ⊢
    clear hw3 e1' X3'
    have B3 := B2.keep K3 id
    have P3 := P2.keep K3 id
    have e0 := B3.cell (j := 0) rfl
    have x0 := X3.cell (j := 0) rfl
    have x1 := X3.cell (j := 1) rfl
    have x2 := X3.cell (j := 2) rfl
    have p0 := P3.cell (j := 0) rfl
    have p1 := P3.cell (j := 1) rfl
    have p2 := P3.cell (j := 2) rfl
    have f0 := P3.frozen 0
    have f1 := P3.frozen 1
    have f2 := P3.frozen 2
    have z2 := K2.size
    have z3 := K3.size
    have hz3 := X3.lt
    have hne : w.heap.size ≠ w.heap.size + 1 := by omega
    have hne2 : w.heap.size ≠ w2.heap.size := by omega
    obtain ⟨P4, K4⟩ := st3G P3 (.int .i64 k) (.int .i64 m) (.slice la l lcap)
    have s0 := P4.cell (j := 0) rfl
    have s1 := P4.cell (j := 1) rfl
    have s2 := P4.cell (j := 2) rfl
    have hn1 : n ≤ 1099511627776 := h.le
    have hn2 : n' ≤ 1099511627776 := D2.le
    go_region_held3 (fun w' => w'.cell? ⟨w2.heap.size, 0, none⟩ = some (.int .i64 k) ∧ w'.cell? ⟨w2.heap.size, 1, none⟩ = some (.int .i64 m) ∧ w'.cell? ⟨w2.heap.size, 2, none⟩ = some (.slice la l lcap) ∧ w'.cell? ⟨w.heap.size + 1, 0, none⟩ = some (.slice ao' n' cap')) (go_keep) (fail)
    go_wp2_with fail
    have hw : IntKind.i64.wrap ((n : Int) - (n' : Int)) = (n : Int) - (y.2.length : Int) := by rw [hlen]; rw [IntKind.wrap_i64]; omega
    refine bodyPost_ret (v := .tuple #[.agg #[.int .i64 k, .int .i64 m, .slice la l lcap], .int .i64 ((n : Int) - (y.2.length : Int)), .int .i64 0]) (by simp [results, Tryd.results28, go_sem, s0, s1, s2, hw]) rfl ⟨?_, ?_⟩
    · exact ((((K1.mono (fun _ s => s.elim)).trans K2 (fun i hi s => by omega)).trans K3 (fun i hi s => s.elim)).trans K4 (fun i hi s => by omega)).drew.below (S := fun _ => False) (Nat.le_refl _) (fun _ s => s.elim)
    · rw [hres]
      have z4 := K4.size
      exact ⟨k, m, la, l, lcap, rfl, LIs.car _ _ _ _ _ _ (fun b hb => (K4.block b (by omega) (by omega)).trans (K3.block b hb.2 id)) (fun b hb => ⟨by omega, Nat.lt_of_lt_of_le (Nat.lt_of_lt_of_le hb.2 z3) z4⟩) I2⟩

set_option maxRecDepth 100000 in
set_option maxHeartbeats 2000000 in
theorem takeLevel_any (ao : Option Addr) (n cap : Nat) (bs : Bs) (w : World) (ht : Tabs w) (h : RdB w w.heap.size ao n cap bs) : Calls Tryd.prog 8 #[.slice ao n cap] w (TkL w n (rLevel bs)) := by
  obtain ⟨w1, hw1, hb1, P1, hs1⟩ := one_newG w [.int .i64 0, .int .i64 0, .slice none 0 0] 27
  have K1 : Keep w w1 (fun _ => False) := Keep.of_below hb1 (Nat.le_refl _)
  have h1 : RdB w1 w1.heap.size ao n cap bs := ⟨(h.keep K1 (fun _ s => s.elim)).rd, fun a ha => by have := h.low a ha; omega, h.le⟩
  have hT := take28 ao n cap bs w1 (ht.keep K1 (fun _ s => s.elim)) h1
  go_enter Tryd.func8, Tryd.ntmps8
  go_wp2_with fail
  refine hT.mono ?_
  rintro x w2 ⟨hb2, hx⟩
  clear hT
  have z2 := hb2.size
  have P2 := P1.below hb2 P1.lt
  have p0 := P2.cell (j := 0) rfl
  have p1 := P2.cell (j := 1) rfl
  have p2 := P2.cell (j := 2) rfl
  have f0 := P2.frozen 0
  have f1 := P2.frozen 1
  have f2 := P2.frozen 2
  cases hres : rLevel bs with
  | bad c =>
    rw [hres] at hx
    obtain ⟨rfl, hc0, hc30⟩ := hx
    obtain ⟨P4, K4⟩ := st3G P2 (.int .i64 0) (.int .i64 0) (.slice none 0 0)
    have s0 := P4.cell (j := 0) rfl
    have s1 := P4.cell (j := 1) rfl
    have s2 := P4.cell (j := 2) rfl
    clear hw1
    go_wp2_with fail
    refine bodyPost_ret (v := .tuple #[.agg #[.int .i64 0, .int .i64 0, .slice none 0 0], .int .i64 0, .int .i64 (c : Int)]) (by simp [results, Tryd.results8, go_sem, s0, s1, s2]) rfl ⟨?_, ?_⟩
    · exact (hb1.trans (hb2.mono (by omega))).trans (K4.below (by omega) (by omega))
    · rw [hres]; exact ⟨rfl, hc0, hc30⟩
  | ok y =>
    rw [hres] at hx
    obtain ⟨k, m, la, l, lcap, rfl, I2⟩ := hx
    obtain ⟨P4, K4⟩ := st3G P2 (.int .i64 k) (.int .i64 m) (.slice la l lcap)
    have s0 := P4.cell (j := 0) rfl
    have s1 := P4.cell (j := 1) rfl
    have s2 := P4.cell (j := 2) rfl
    clear hw1
    go_wp2_with fail
    have z4 := K4.size
    refine bodyPost_ret (v := .tuple #[.agg #[.int .i64 k, .int .i64 m, .slice la l lcap], .int .i64 ((n : Int) - (y.2.length : Int)), .int .i64 0]) (by simp [results, Tryd.results8, go_sem, s0, s1, s2]) rfl ⟨?_, ?_⟩
    · exact (hb1.trans (hb2.mono (by omega))).trans (K4.below (by omega) (by omega))
    · rw [hres]
      exact ⟨k, m, la, l, lcap, rfl, LIs.car _ _ _ _ _ _ (fun b hb => K4.block b hb.2 (by omega)) (fun b hb => ⟨by omega, Nat.lt_of_lt_of_le hb.2 z4⟩) I2⟩
end Go.Proofs.YtkbpmpcbajnmlaaDoor

/- The walk of the program's TakeTerm. No condition but that the bytes can be read, are no longer than 2^40, and that the tables are laid. -/
namespace Go.Proofs.YtkbpmpcbajnmlaaDoor
open Go.RowKit

/-- What TakeTerm tells. -/
def TkT (w : World) (n : Nat) (res : Er (Pm × Bs)) (x : Ending) (w' : World) : Prop :=
  Below w.heap.size w w' ∧ match res with
  | .bad c => x = .returned (.tuple #[.agg #[.int .i64 0, .int .i64 0, .string { data := #[] }, .slice none 0 0, .slice none 0 0], .int .i64 0, .int .i64 (c : Int)]) ∧ c ≠ 0 ∧ c ≤ 30
  | .ok y => ∃ T : Tr, x = .returned (.tuple #[.agg #[.int .i64 T.k, .int .i64 T.n, .string T.s, .slice T.la T.ls.length T.lc, .slice T.a T.args.length T.c], .int .i64 ((n : Int) - (y.2.length : Int)), .int .i64 0]) ∧ TIs w' (fun b => w.heap.size ≤ b ∧ b < w'.heap.size) y.1 [.int .i64 T.k, .int .i64 T.n, .string T.s, .slice T.la T.ls.length T.lc, .slice T.a T.args.length T.c]

set_option maxRecDepth 100000 in
set_option maxHeartbeats 4000000 in
theorem take31b (ao : Option Addr) (n cap : Nat) (bs : Bs) (w : World) (ht : Tabs w) (h : RdB w w.heap.size ao n cap bs) (c : Nat) (hres : rTerm bs = .bad c) : Calls Tryd.prog 31 #[.slice ao n cap, .func (.func 32) #[] #[]] w (TkT w n (rTerm bs)) := by
  obtain ⟨w1, hw1, hb1, P1, Q1, hs1⟩ := two_newG w [.int .i64 0, .int .i64 0, .string { data := #[] }, .slice none 0 0, .slice none 0 0] [.slice ao n cap, .int .i64 0] 33 83
  have K1 : Keep w w1 (fun _ => False) := Keep.of_below hb1 (Nat.le_refl _)
  have R1 : RSx w1 w.heap.size (w.heap.size + 1) (.ok bs) := ⟨ao, n, cap, Q1, h.keep K1 (fun _ s => s.elim), by omega, by omega⟩
  have hL := term_any w.heap.size (w.heap.size + 1) (.ok bs) w1 (ht.keep K1 (fun _ s => s.elim)) ht.lt R1
  change Calls Tryd.prog 32 _ _ (TmP _ _ _ (rTerm bs)) at hL
  have HW : Hid _ := hw1
  clear hw1
  go_enter Tryd.func31, Tryd.ntmps31
  go_wp2_with fail
  have hw1 := HW.out
  rw [hw1]
  refine hL.mono ?_
  rintro x w2 ⟨L, T, rfl, R2, O2, I2, K2⟩
  clear hL
  have P2 := P1.keep K2 (by omega)
  rw [hres] at R2
  obtain ⟨hc0, bs', ao', n', cap', B2, D2, _, hc30⟩ := R2
  have K3 : Keep w2 (w2.alloc (.cells #[.int .i64 T.k, .int .i64 T.n, .string T.s, .slice T.la T.ls.length T.lc, .slice T.a T.args.length T.c] 33)) (fun _ => False) := (Keep.refl w2 _).alloc _
  have e1' := (B2.keep K3 id).cell (j := 1) rfl
  have hd : ((c : Int) == 0) = false := beq_eq_false_iff_ne.2 (by omega)
  clear hw1
  go_wp2_with fail
  obtain ⟨w3, hw3⟩ : ∃ w3, w2.alloc (.cells #[.int .i64 T.k, .int .i64 T.n, .string T.s, .slice T.la T.ls.length T.lc, .slice T.a T.args.length T.c] 33) = w3 := ⟨_, rfl⟩
  rw [hw3] at K3 ⊢
  clear hw3 e1'
  have B3 := B2.keep K3 id
  have P3 := P2.keep K3 id
  have e1 := B3.cell (j := 1) rfl
  have p0 := P3.cell (j := 0) rfl
  have f0 := P3.frozen 0
  have p1 := P3.cell (j := 1) rfl
  have f1 := P3.frozen 1
  have p2 := P3.cell (j := 2) rfl
  have f2 := P3.frozen 2
  have p3 := P3.cell (j := 3) rfl
  have f3 := P3.frozen 3
  have p4 := P3.cell (j := 4) rfl
  have f4 := P3.frozen 4
  have z2 := K2.size
  have z3 := K3.size
  have hne : w.heap.size ≠ w.heap.size + 1 := by omega
  have P4 : Blk (((((w3.setCell ⟨w.heap.size, 0, none⟩ (.int .i64 0)).setCell ⟨w.heap.size, 1, none⟩ (.int .i64 0)).setCell ⟨w.heap.size, 2, none⟩ (.string { data := #[] })).setCell ⟨w.heap.size, 3, none⟩ (.slice none 0 0)).setCell ⟨w.heap.size, 4, none⟩ (.slice none 0 0)) w.heap.size 33 [.int .i64 0, .int .i64 0, .string { data := #[] }, .slice none 0 0, .slice none 0 0] := puts_blk P3 0 [.int .i64 0, .int .i64 0, .string { data := #[] }, .slice none 0 0, .slice none 0 0]
  have K4 : Keep w3 (((((w3.setCell ⟨w.heap.size, 0, none⟩ (.int .i64 0)).setCell ⟨w.heap.size, 1, none⟩ (.int .i64 0)).setCell ⟨w.heap.size, 2, none⟩ (.string { data := #[] })).setCell ⟨w.heap.size, 3, none⟩ (.slice none 0 0)).setCell ⟨w.heap.size, 4, none⟩ (.slice none 0 0)) (· = w.heap.size) := puts_keep 0 [.int .i64 0, .int .i64 0, .string { data := #[] }, .slice none 0 0, .slice none 0 0] (Keep.refl _ _)
  have s0 := P4.cell (j := 0) rfl
  have s1 := P4.cell (j := 1) rfl
  have s2 := P4.cell (j := 2) rfl
  have s3 := P4.cell (j := 3) rfl
  have s4 := P4.cell (j := 4) rfl
  go_region_held3 (fun w' => w'.cell? ⟨w.heap.size, 0, none⟩ = some (.int .i64 0) ∧ w'.cell? ⟨w.heap.size, 1, none⟩ = some (.int .i64 0) ∧ w'.cell? ⟨w.heap.size, 2, none⟩ = some (.string { data := #[] }) ∧ w'.cell? ⟨w.heap.size, 3, none⟩ = some (.slice none 0 0) ∧ w'.cell? ⟨w.heap.size, 4, none⟩ = some (.slice none 0 0) ∧ w'.cell? ⟨w.heap.size + 1, 1, none⟩ = some (.int .i64 (c : Int))) (go_keep) (fail)
  go_wp2_with fail
  have P5 := P4.drew
  have K5 := K4.drew
  clear s0 s1 s2 s3 s4 P4 K4
  generalize World.drew (((((w3.setCell ⟨w.heap.size, 0, none⟩ (.int .i64 0)).setCell ⟨w.heap.size, 1, none⟩ (.int .i64 0)).setCell ⟨w.heap.size, 2, none⟩ (.string { data := #[] })).setCell ⟨w.heap.size, 3, none⟩ (.slice none 0 0)).setCell ⟨w.heap.size, 4, none⟩ (.slice none 0 0)) = W at P5 K5 ⊢
  have s0 := P5.cell (j := 0) rfl
  have s1 := P5.cell (j := 1) rfl
  have s2 := P5.cell (j := 2) rfl
  have s3 := P5.cell (j := 3) rfl
  have s4 := P5.cell (j := 4) rfl
  refine bodyPost_ret (v := .tuple #[.agg #[.int .i64 0, .int .i64 0, .string { data := #[] }, .slice none 0 0, .slice none 0 0], .int .i64 0, .int .i64 (c : Int)]) (by simp [results, Tryd.results31, go_sem, s0, s1, s2, s3, s4]) rfl ⟨?_, ?_⟩
  · exact ((((K1.mono (fun _ s => s.elim)).trans K2 (fun i hi s => by omega)).trans K3 (fun i hi s => s.elim)).trans K5 (fun i hi s => by omega)).below (S := fun _ => False) (Nat.le_refl _) (fun _ s => s.elim)
  · rw [hres]; exact ⟨rfl, hc0, hc30⟩

set_option maxRecDepth 100000 in
set_option maxHeartbeats 4000000 in
theorem take31o (ao : Option Addr) (n cap : Nat) (bs : Bs) (w : World) (ht : Tabs w) (h : RdB w w.heap.size ao n cap bs) (y : _ × Bs) (hres : rTerm bs = .ok y) : Calls Tryd.prog 31 #[.slice ao n cap, .func (.func 32) #[] #[]] w (TkT w n (rTerm bs)) := by
  obtain ⟨w1, hw1, hb1, P1, Q1, hs1⟩ := two_newG w [.int .i64 0, .int .i64 0, .string { data := #[] }, .slice none 0 0, .slice none 0 0] [.slice ao n cap, .int .i64 0] 33 83
  have K1 : Keep w w1 (fun _ => False) := Keep.of_below hb1 (Nat.le_refl _)
  have R1 : RSx w1 w.heap.size (w.heap.size + 1) (.ok bs) := ⟨ao, n, cap, Q1, h.keep K1 (fun _ s => s.elim), by omega, by omega⟩
  have hL := term_any w.heap.size (w.heap.size + 1) (.ok bs) w1 (ht.keep K1 (fun _ s => s.elim)) ht.lt R1
  change Calls Tryd.prog 32 _ _ (TmP _ _ _ (rTerm bs)) at hL
  have HW : Hid _ := hw1
  clear hw1
  go_enter Tryd.func31, Tryd.ntmps31
  go_wp2_with fail
  have hw1 := HW.out
  rw [hw1]
  refine hL.mono ?_
  rintro x w2 ⟨L, T, rfl, R2, O2, I2, K2⟩
  clear hL
  have P2 := P1.keep K2 (by omega)
  rw [hres] at R2
  obtain ⟨ao', n', cap', B2, D2, _, _⟩ := R2
  obtain rfl := O2 y hres
  have hlen := D2.rd.len
  have K3 : Keep w2 (w2.alloc (.cells #[.int .i64 T.k, .int .i64 T.n, .string T.s, .slice T.la T.ls.length T.lc, .slice T.a T.args.length T.c] 33)) (fun _ => False) := (Keep.refl w2 _).alloc _
  have X3' := Blk.new w2 33 [.int .i64 T.k, .int .i64 T.n, .string T.s, .slice T.la T.ls.length T.lc, .slice T.a T.args.length T.c]
  have e1' := (B2.keep K3 id).cell (j := 1) rfl
  clear hw1
  go_wp2_with fail
  obtain ⟨w3, hw3⟩ : ∃ w3, w2.alloc (.cells #[.int .i64 T.k, .int .i64 T.n, .string T.s, .slice T.la T.ls.length T.lc, .slice T.a T.args.length T.c] 33) = w3 := ⟨_, rfl⟩
  have X3 : Blk w3 w2.heap.size 33 [.int .i64 T.k, .int .i64 T.n, .string T.s, .slice T.la T.ls.length T.lc, .slice T.a T.args.length T.c] := by rw [← hw3]; exact X3'
  rw [hw3] at K3 ⊢
  clear hw3 e1' X3'
  have B3 := B2.keep K3 id
  have P3 := P2.keep K3 id
  have e0 := B3.cell (j := 0) rfl
  have x0 := X3.cell (j := 0) rfl
  have x1 := X3.cell (j := 1) rfl
  have x2 := X3.cell (j := 2) rfl
  have x3 := X3.cell (j := 3) rfl
  have x4 := X3.cell (j := 4) rfl
  have p0 := P3.cell (j := 0) rfl
  have f0 := P3.frozen 0
  have p1 := P3.cell (j := 1) rfl
  have f1 := P3.frozen 1
  have p2 := P3.cell (j := 2) rfl
  have f2 := P3.frozen 2
  have p3 := P3.cell (j := 3) rfl
  have f3 := P3.frozen 3
  have p4 := P3.cell (j := 4) rfl
  have f4 := P3.frozen 4
  have z2 := K2.size
  have z3 := K3.size
  have hz3 := X3.lt
  have hne : w.heap.size ≠ w.heap.size + 1 := by omega
  have hne2 : w.heap.size ≠ w2.heap.size := by omega
  have P4 : Blk (((((w3.setCell ⟨w.heap.size, 0, none⟩ (.int .i64 T.k)).setCell ⟨w.heap.size, 1, none⟩ (.int .i64 T.n)).setCell ⟨w.heap.size, 2, none⟩ (.string T.s)).setCell ⟨w.heap.size, 3, none⟩ (.slice T.la T.ls.length T.lc)).setCell ⟨w.heap.size, 4, none⟩ (.slice T.a T.args.length T.c)) w.heap.size 33 [.int .i64 T.k, .int .i64 T.n, .string T.s, .slice T.la T.ls.length T.lc, .slice T.a T.args.length T.c] := puts_blk P3 0 [.int .i64 T.k, .int .i64 T.n, .string T.s, .slice T.la T.ls.length T.lc, .slice T.a T.args.length T.c]
  have K4 : Keep w3 (((((w3.setCell ⟨w.heap.size, 0, none⟩ (.int .i64 T.k)).setCell ⟨w.heap.size, 1, none⟩ (.int .i64 T.n)).setCell ⟨w.heap.size, 2, none⟩ (.string T.s)).setCell ⟨w.heap.size, 3, none⟩ (.slice T.la T.ls.length T.lc)).setCell ⟨w.heap.size, 4, none⟩ (.slice T.a T.args.length T.c)) (· = w.heap.size) := puts_keep 0 [.int .i64 T.k, .int .i64 T.n, .string T.s, .slice T.la T.ls.length T.lc, .slice T.a T.args.length T.c] (Keep.refl _ _)
  have s0 := P4.cell (j := 0) rfl
  have s1 := P4.cell (j := 1) rfl
  have s2 := P4.cell (j := 2) rfl
  have s3 := P4.cell (j := 3) rfl
  have s4 := P4.cell (j := 4) rfl
  have hn1 : n ≤ 1099511627776 := h.le
  have hn2 : n' ≤ 1099511627776 := D2.le
  go_region_held3 (fun w' => w'.cell? ⟨w2.heap.size, 0, none⟩ = some (.int .i64 T.k) ∧ w'.cell? ⟨w2.heap.size, 1, none⟩ = some (.int .i64 T.n) ∧ w'.cell? ⟨w2.heap.size, 2, none⟩ = some (.string T.s) ∧ w'.cell? ⟨w2.heap.size, 3, none⟩ = some (.slice T.la T.ls.length T.lc) ∧ w'.cell? ⟨w2.heap.size, 4, none⟩ = some (.slice T.a T.args.length T.c) ∧ w'.cell? ⟨w.heap.size + 1, 0, none⟩ = some (.slice ao' n' cap')) (go_keep) (fail)
  go_wp2_with fail
  have hw : IntKind.i64.wrap ((n : Int) - (n' : Int)) = (n : Int) - (y.2.length : Int) := by rw [hlen]; rw [IntKind.wrap_i64]; omega
  have P5 := P4.drew
  have K5 := K4.drew
  clear s0 s1 s2 s3 s4 P4 K4
  generalize World.drew (((((w3.setCell ⟨w.heap.size, 0, none⟩ (.int .i64 T.k)).setCell ⟨w.heap.size, 1, none⟩ (.int .i64 T.n)).setCell ⟨w.heap.size, 2, none⟩ (.string T.s)).setCell ⟨w.heap.size, 3, none⟩ (.slice T.la T.ls.length T.lc)).setCell ⟨w.heap.size, 4, none⟩ (.slice T.a T.args.length T.c)) = W at P5 K5 ⊢
  have s0 := P5.cell (j := 0) rfl
  have s1 := P5.cell (j := 1) rfl
  have s2 := P5.cell (j := 2) rfl
  have s3 := P5.cell (j := 3) rfl
  have s4 := P5.cell (j := 4) rfl
  have z4 := K5.size
  refine bodyPost_ret (v := .tuple #[.agg #[.int .i64 T.k, .int .i64 T.n, .string T.s, .slice T.la T.ls.length T.lc, .slice T.a T.args.length T.c], .int .i64 ((n : Int) - (y.2.length : Int)), .int .i64 0]) (by simp [results, Tryd.results31, go_sem, s0, s1, s2, s3, s4, hw]) rfl ⟨?_, ?_⟩
  · exact ((((K1.mono (fun _ s => s.elim)).trans K2 (fun i hi s => by omega)).trans K3 (fun i hi s => s.elim)).trans K5 (fun i hi s => by omega)).below (S := fun _ => False) (Nat.le_refl _) (fun _ s => s.elim)
  · rw [hres]
    exact ⟨T, rfl, TIs.car _ _ _ _ _ _ (fun b hb => (K5.block b (by omega) (by omega)).trans (K3.block b hb.2 id)) (fun b hb => ⟨by omega, Nat.lt_of_lt_of_le (Nat.lt_of_lt_of_le hb.2 z3) z4⟩) I2⟩

theorem take31 (ao : Option Addr) (n cap : Nat) (bs : Bs) (w : World) (ht : Tabs w) (h : RdB w w.heap.size ao n cap bs) : Calls Tryd.prog 31 #[.slice ao n cap, .func (.func 32) #[] #[]] w (TkT w n (rTerm bs)) := by
  cases hres : rTerm bs with
  | bad c => rw [← hres]; exact take31b ao n cap bs w ht h c hres
  | ok y => rw [← hres]; exact take31o ao n cap bs w ht h y hres

set_option maxRecDepth 100000 in
set_option maxHeartbeats 4000000 in
theorem takeTerm_any (ao : Option Addr) (n cap : Nat) (bs : Bs) (w : World) (ht : Tabs w) (h : RdB w w.heap.size ao n cap bs) : Calls Tryd.prog 10 #[.slice ao n cap] w (TkT w n (rTerm bs)) := by
  obtain ⟨w1, hw1, hb1, P1, hs1⟩ := one_newG w [.int .i64 0, .int .i64 0, .string { data := #[] }, .slice none 0 0, .slice none 0 0] 33
  have K1 : Keep w w1 (fun _ => False) := Keep.of_below hb1 (Nat.le_refl _)
  have h1 : RdB w1 w1.heap.size ao n cap bs := ⟨(h.keep K1 (fun _ s => s.elim)).rd, fun a ha => by have := h.low a ha; omega, h.le⟩
  have hT := take31 ao n cap bs w1 (ht.keep K1 (fun _ s => s.elim)) h1
  go_enter Tryd.func10, Tryd.ntmps10
  go_wp2_with fail
  refine hT.mono ?_
  rintro x w2 ⟨hb2, hx⟩
  clear hT
  have z2 := hb2.size
  have P2 := P1.below hb2 P1.lt
  have p0 := P2.cell (j := 0) rfl
  have f0 := P2.frozen 0
  have p1 := P2.cell (j := 1) rfl
  have f1 := P2.frozen 1
  have p2 := P2.cell (j := 2) rfl
  have f2 := P2.frozen 2
  have p3 := P2.cell (j := 3) rfl
  have f3 := P2.frozen 3
  have p4 := P2.cell (j := 4) rfl
  have f4 := P2.frozen 4
  cases hres : rTerm bs with
  | bad c =>
    rw [hres] at hx
    obtain ⟨rfl, hc0, hc30⟩ := hx
    have P4 : Blk (((((w2.setCell ⟨w.heap.size, 0, none⟩ (.int .i64 0)).setCell ⟨w.heap.size, 1, none⟩ (.int .i64 0)).setCell ⟨w.heap.size, 2, none⟩ (.string { data := #[] })).setCell ⟨w.heap.size, 3, none⟩ (.slice none 0 0)).setCell ⟨w.heap.size, 4, none⟩ (.slice none 0 0)) w.heap.size 33 [.int .i64 0, .int .i64 0, .string { data := #[] }, .slice none 0 0, .slice none 0 0] := puts_blk P2 0 [.int .i64 0, .int .i64 0, .string { data := #[] }, .slice none 0 0, .slice none 0 0]
    have K4 : Keep w2 (((((w2.setCell ⟨w.heap.size, 0, none⟩ (.int .i64 0)).setCell ⟨w.heap.size, 1, none⟩ (.int .i64 0)).setCell ⟨w.heap.size, 2, none⟩ (.string { data := #[] })).setCell ⟨w.heap.size, 3, none⟩ (.slice none 0 0)).setCell ⟨w.heap.size, 4, none⟩ (.slice none 0 0)) (· = w.heap.size) := puts_keep 0 [.int .i64 0, .int .i64 0, .string { data := #[] }, .slice none 0 0, .slice none 0 0] (Keep.refl _ _)
    have s0 := P4.cell (j := 0) rfl
    have s1 := P4.cell (j := 1) rfl
    have s2 := P4.cell (j := 2) rfl
    have s3 := P4.cell (j := 3) rfl
    have s4 := P4.cell (j := 4) rfl
    clear hw1
    go_wp2_with fail
    refine bodyPost_ret (v := .tuple #[.agg #[.int .i64 0, .int .i64 0, .string { data := #[] }, .slice none 0 0, .slice none 0 0], .int .i64 0, .int .i64 (c : Int)]) (by simp [results, Tryd.results10, go_sem, s0, s1, s2, s3, s4]) rfl ⟨?_, ?_⟩
    · exact (hb1.trans (hb2.mono (by omega))).trans (K4.below (by omega) (by omega))
    · rw [hres]; exact ⟨rfl, hc0, hc30⟩
  | ok y =>
    rw [hres] at hx
    obtain ⟨T, rfl, I2⟩ := hx
    have P4 : Blk (((((w2.setCell ⟨w.heap.size, 0, none⟩ (.int .i64 T.k)).setCell ⟨w.heap.size, 1, none⟩ (.int .i64 T.n)).setCell ⟨w.heap.size, 2, none⟩ (.string T.s)).setCell ⟨w.heap.size, 3, none⟩ (.slice T.la T.ls.length T.lc)).setCell ⟨w.heap.size, 4, none⟩ (.slice T.a T.args.length T.c)) w.heap.size 33 [.int .i64 T.k, .int .i64 T.n, .string T.s, .slice T.la T.ls.length T.lc, .slice T.a T.args.length T.c] := puts_blk P2 0 [.int .i64 T.k, .int .i64 T.n, .string T.s, .slice T.la T.ls.length T.lc, .slice T.a T.args.length T.c]
    have K4 : Keep w2 (((((w2.setCell ⟨w.heap.size, 0, none⟩ (.int .i64 T.k)).setCell ⟨w.heap.size, 1, none⟩ (.int .i64 T.n)).setCell ⟨w.heap.size, 2, none⟩ (.string T.s)).setCell ⟨w.heap.size, 3, none⟩ (.slice T.la T.ls.length T.lc)).setCell ⟨w.heap.size, 4, none⟩ (.slice T.a T.args.length T.c)) (· = w.heap.size) := puts_keep 0 [.int .i64 T.k, .int .i64 T.n, .string T.s, .slice T.la T.ls.length T.lc, .slice T.a T.args.length T.c] (Keep.refl _ _)
    have s0 := P4.cell (j := 0) rfl
    have s1 := P4.cell (j := 1) rfl
    have s2 := P4.cell (j := 2) rfl
    have s3 := P4.cell (j := 3) rfl
    have s4 := P4.cell (j := 4) rfl
    clear hw1
    go_wp2_with fail
    clear s0 s1 s2 s3 s4
    generalize (((((w2.setCell ⟨w.heap.size, 0, none⟩ (.int .i64 T.k)).setCell ⟨w.heap.size, 1, none⟩ (.int .i64 T.n)).setCell ⟨w.heap.size, 2, none⟩ (.string T.s)).setCell ⟨w.heap.size, 3, none⟩ (.slice T.la T.ls.length T.lc)).setCell ⟨w.heap.size, 4, none⟩ (.slice T.a T.args.length T.c)) = W at P4 K4 ⊢
    have s0 := P4.cell (j := 0) rfl
    have s1 := P4.cell (j := 1) rfl
    have s2 := P4.cell (j := 2) rfl
    have s3 := P4.cell (j := 3) rfl
    have s4 := P4.cell (j := 4) rfl
    have z4 := K4.size
    refine bodyPost_ret (v := .tuple #[.agg #[.int .i64 T.k, .int .i64 T.n, .string T.s, .slice T.la T.ls.length T.lc, .slice T.a T.args.length T.c], .int .i64 ((n : Int) - (y.2.length : Int)), .int .i64 0]) (by simp [results, Tryd.results10, go_sem, s0, s1, s2, s3, s4]) rfl ⟨?_, ?_⟩
    · exact (hb1.trans (hb2.mono (by omega))).trans (K4.below (by omega) (by omega))
    · rw [hres]
      exact ⟨T, rfl, TIs.car _ _ _ _ _ _ (fun b hb => K4.block b hb.2 (by omega)) (fun b hb => ⟨by omega, Nat.lt_of_lt_of_le hb.2 z4⟩) I2⟩
end Go.Proofs.YtkbpmpcbajnmlaaDoor

/- The walk of the program's codec.Decl at nil. No condition but that the declaration is as reading tells it, and that what is written stays short. -/
namespace Go.Proofs.YtkbpmpcbajnmlaaDoor
open Go.RowKit

set_option maxRecDepth 100000 in
set_option maxHeartbeats 2000000 in
theorem decl_nil (d : Dc) (dk dp dn : Int) (nm fm : ByteArray) (U V : Tr) (ca : Option Addr) (cl cc : Nat) (w : World) (ht : Tabs w) (hI : DIs w (· < w.heap.size) d dk dp dn nm fm U V ca cl cc) (hwf : WfD d) (hs : (eDecl d).length ≤ 90000) :
    Calls Tryd.prog 21 #[.slice none 0 0, .agg #[.int .i64 dk, .int .i64 dp, .int .i64 dn, .string nm, .string fm, .int .i64 U.k, .int .i64 U.n, .string U.s, .slice U.la U.ls.length U.lc, .slice U.a U.args.length U.c, .int .i64 V.k, .int .i64 V.n, .string V.s, .slice V.la V.ls.length V.lc, .slice V.a V.args.length V.c, .slice ca cl cc]] w fun x w' => ∃ ao m c, x = .returned (.slice ao m c) ∧ Rd w' ao m c (eDecl d) ∧ Below w.heap.size w w' := by
  obtain ⟨w1, hw1, hb1, B1, hs1⟩ := one_newE w (dcells dk dp dn nm fm U V ca cl cc) 38
  have T1 : Tabs w1 := ht.carry (fun i hi => hb1.block i (by have := ht.lt; omega))
  have h2 := ht.lt
  have N1 : DIs w1 (· < w.heap.size + 1) d dk dp dn nm fm U V ca cl cc := hI.carry (fun b hb => hb1.block b hb) (fun b hb => by omega)
  have H1 : Hid _ := hw1
  unfold dcells at H1
  clear hw1 ht hI
  go_enter Tryd.func21, Tryd.ntmps21
  go_wp2_with fail
  rw [H1.out]
  refine (neww_nil w1).mono ?_
  rintro x w2 ⟨g, rfl, G2, hg, hb2⟩
  have B2 := B1.below hb2 B1.lt
  have hW : WS w2 (w.heap.size + 1) g 75 [] none [] := ⟨⟨none, 0, 0, G2, .inl ⟨rfl, rfl, rfl, rfl, rfl⟩⟩, by omega, by simp, .inl rfl⟩
  have T2 : Tabs w2 := T1.carry (fun i hi => hb2.block i (by omega))
  have N2 : DIs w2 (· < w.heap.size + 1) d dk dp dn nm fm U V ca cl cc := N1.carry (fun b hb => hb2.block b (by omega)) (fun b hb => hb)
  have cL : Calls Tryd.prog 40 #[.pointer (some ⟨g, 0, none⟩), .pointer (some ⟨w.heap.size, 0, none⟩)] w2 (WP w2 (w.heap.size + 1) g 75 [] none ([] ++ eDecl d)) := by
    obtain ⟨rfl, rfl, rfl, rfl, rfl, e6, e7, rfl, i1, i2, i3, -, -, -⟩ := N2
    by_cases hk : d.k = 2
    · exact wdecl_two d U V ca cc w.heap.size w2 (w.heap.size + 1) g none [] hW T2 (by omega) (by omega) B2 e6 e7 i1 i2 i3 hwf hk (by simpa using hs)
    · exact wdecl_one d U V ca cc w.heap.size w2 (w.heap.size + 1) g none [] hW T2 (by omega) (by omega) B2 e6 e7 i1 i2 i3 hwf hk (by simpa using hs)
  rw [List.nil_append] at cL
  have b2 : Below w.heap.size w w2 := hb1.trans (hb2.mono hb1.size)
  clear hW T2 T1 N1 N2 B1 B2 G2 H1 hb1 hs hwf
  go_wp2_with fail
  refine cL.mono ?_
  rintro x w3 ⟨rfl, q', hW3, hk3, _⟩
  obtain ⟨ao, m, c, G3, R3⟩ := hW3.rd
  have x0 := G3.cell (j := 0) rfl
  have b3 : Below w.heap.size w w3 := b2.trans (hk3.below b2.size (fun j e => e.elim (fun e => by omega) (fun e => by cases e)))
  clear cL G3 hW3 hk3 b2
  go_wp2_with fail
  go_ret
  exact ⟨ao, m, c, rfl, R3, b3⟩
end Go.Proofs.YtkbpmpcbajnmlaaDoor

/- What reading tells, for the walk of the statement CodecOnly. No condition but that the bytes can be read. -/
namespace Go.Proofs.YtkbpmpcbajnmlaaDoor
open Go.RowKit

/-- The beginning of bytes. -/
theorem Rd.pre {w : World} {ao : Option Addr} {n cap : Nat} {bs a r : Bs} (h : Rd w ao n cap bs) (e : bs = a ++ r) : Rd w ao a.length cap a := by
  have hl := h.len
  rw [e, List.length_append] at hl
  refine ⟨rfl, by have := h.le; omega, h.max, fun h0 => by have := h.nil h0; omega, fun ad ha j u hu => h.cells ad ha j u ?_⟩
  rw [e, List.getElem?_append_left (List.getElem?_eq_some_iff.1 hu).1]
  exact hu

theorem lev_ok {w w' : World} {n : Nat} {L : Lv} {r : Bs} {x : Ending} (h : TkL w n (.ok (L, r)) x w') : ∃ (k m : Int) (args : List Lv) (ao : Option Addr) (cap : Nat), L = .mk k m args ∧ x = .returned (.tuple #[.agg #[.int .i64 k, .int .i64 m, .slice ao args.length cap], .int .i64 ((n : Int) - (r.length : Int)), .int .i64 0]) ∧ Node w' (· < w'.heap.size) k m args ao cap ∧ Below w.heap.size w w' := by
  obtain ⟨hb, k, m, ao, l, cap, rfl, k', n', a', l', cap', e, hI⟩ := h
  simp only [List.cons.injEq, Value.int.injEq, Value.slice.injEq, true_and, and_true] at e
  obtain ⟨rfl, rfl, rfl, rfl, rfl⟩ := e
  cases L with
  | mk k0 n0 args =>
    obtain ⟨rfl, rfl, rfl, hN⟩ := hI.agg
    exact ⟨_, _, args, _, _, rfl, rfl, hN.carry (fun _ _ => rfl) (fun b hb => hb.2), hb⟩

theorem lev_bad {w w' : World} {n c : Nat} {x : Ending} (h : TkL w n (.bad c) x w') : x = .returned (.tuple #[.agg #[.int .i64 0, .int .i64 0, .slice none 0 0], .int .i64 0, .int .i64 (c : Int)]) ∧ c ≠ 0 ∧ Below w.heap.size w w' := ⟨h.2.1, h.2.2.1, h.1⟩
theorem term_ok {w w' : World} {n : Nat} {t : Pm} {r : Bs} {x : Ending} (h : TkT w n (.ok (t, r)) x w') : ∃ T : Tr, T.pl = t ∧ x = .returned (.tuple #[.agg #[.int .i64 T.k, .int .i64 T.n, .string T.s, .slice T.la T.ls.length T.lc, .slice T.a T.args.length T.c], .int .i64 ((n : Int) - (r.length : Int)), .int .i64 0]) ∧ TIn w' (· < w'.heap.size) T ∧ Below w.heap.size w w' := by
  obtain ⟨hb, T, rfl, T', h1, h2, h3⟩ := h
  simp only [Tr.cells, List.cons.injEq, Value.int.injEq, Value.string.injEq, Value.slice.injEq, true_and, and_true] at h2
  obtain ⟨e1, e2, e3, ⟨e4, e5, e6⟩, e7, e8, e9⟩ := h2
  refine ⟨T', h1, ?_, h3.mono (fun b hb => hb.2), hb⟩
  rw [e1, e2, e3, e4, e5, e6, e7, e8, e9]
theorem term_bad {w w' : World} {n c : Nat} {x : Ending} (h : TkT w n (.bad c) x w') : x = .returned (.tuple #[.agg #[.int .i64 0, .int .i64 0, .string { data := #[] }, .slice none 0 0, .slice none 0 0], .int .i64 0, .int .i64 (c : Int)]) ∧ c ≠ 0 ∧ Below w.heap.size w w' := ⟨h.2.1, h.2.2.1, h.1⟩
theorem decl_ok {w w' : World} {n : Nat} {d : Dc} {r : Bs} {x : Ending} (h : TkD w n (.ok (d, r)) x w') : ∃ (dk dp dn : Int) (nm fm : ByteArray) (U V : Tr) (ca : Option Addr) (cl cc : Nat), x = .returned (.tuple #[.agg #[.int .i64 dk, .int .i64 dp, .int .i64 dn, .string nm, .string fm, .int .i64 U.k, .int .i64 U.n, .string U.s, .slice U.la U.ls.length U.lc, .slice U.a U.args.length U.c, .int .i64 V.k, .int .i64 V.n, .string V.s, .slice V.la V.ls.length V.lc, .slice V.a V.args.length V.c, .slice ca cl cc], .int .i64 ((n : Int) - (r.length : Int)), .int .i64 0]) ∧ DIs w' (· < w'.heap.size) d dk dp dn nm fm U V ca cl cc ∧ Below w.heap.size w w' := by
  obtain ⟨hb, dk, dp, dn, nm, fm, U, V, ca, cl, cc, rfl, h1⟩ := h
  exact ⟨dk, dp, dn, nm, fm, U, V, ca, cl, cc, rfl, h1.carry (fun _ _ => rfl) (fun b hb => hb.2), hb⟩
theorem decl_bad {w w' : World} {n c : Nat} {x : Ending} (h : TkD w n (.bad c) x w') : x = .returned (.tuple #[.agg #[.int .i64 0, .int .i64 0, .int .i64 0, .string { data := #[] }, .string { data := #[] }, .int .i64 0, .int .i64 0, .string { data := #[] }, .slice none 0 0, .slice none 0 0, .int .i64 0, .int .i64 0, .string { data := #[] }, .slice none 0 0, .slice none 0 0, .slice none 0 0], .int .i64 0, .int .i64 (c : Int)]) ∧ c ≠ 0 ∧ Below w.heap.size w w' := ⟨h.2.1, h.2.2.1, h.1⟩

/-- Where bytes that were handed in can be read, they can be where memory only grew. -/
theorem RdB.up {w w' : World} {ao : Option Addr} {n cap : Nat} {bs : Bs} (h : RdB w w.heap.size ao n cap bs) (hb : Below w.heap.size w w') : RdB w' w'.heap.size ao n cap bs :=
  ⟨(h.carry (fun k hk => hb.block k hk)).rd, fun a ha => by have := h.low a ha; have := hb.size; omega, h.le⟩
theorem Tabs.up {w w' : World} (h : Tabs w) (hb : Below w.heap.size w w') : Tabs w' := h.carry (fun i hi => hb.block i (by have := h.lt; omega))

end Go.Proofs.YtkbpmpcbajnmlaaDoor
