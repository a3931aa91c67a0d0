/- The walk of the program's TakeDecl. No condition but that the bytes can be read, are no longer than 2^40, and that the tables are laid. -/
import Derived.Test.YtkbpmpcbajnmlaaDoorDc5
import Derived.Deep.RegionHeld3
namespace Go.Proofs.YtkbpmpcbajnmlaaDoor
open Go.RowKit

/-- What TakeDecl tells. -/
def TkD (w : World) (n : Nat) (res : Er (Dc × Bs)) (x : Ending) (w' : World) : Prop :=
  Below w.heap.size w w' ∧ match res with
  | .bad c => x = .returned (.tuple #[.agg #[.int .i64 0, .int .i64 0, .int .i64 0, .string { data := #[] }, .string { data := #[] }, .int .i64 0, .int .i64 0, .string { data := #[] }, .slice none 0 0, .slice none 0 0, .int .i64 0, .int .i64 0, .string { data := #[] }, .slice none 0 0, .slice none 0 0, .slice none 0 0], .int .i64 0, .int .i64 (c : Int)]) ∧ c ≠ 0 ∧ c ≤ 30
  | .ok y => ∃ (dk dp dn : Int) (nm fm : ByteArray) (U V : Tr) (ca : Option Addr) (cl cc : Nat), x = .returned (.tuple #[.agg #[.int .i64 dk, .int .i64 dp, .int .i64 dn, .string nm, .string fm, .int .i64 U.k, .int .i64 U.n, .string U.s, .slice U.la U.ls.length U.lc, .slice U.a U.args.length U.c, .int .i64 V.k, .int .i64 V.n, .string V.s, .slice V.la V.ls.length V.lc, .slice V.a V.args.length V.c, .slice ca cl cc], .int .i64 ((n : Int) - (y.2.length : Int)), .int .i64 0]) ∧ DIs w' (fun b => w.heap.size ≤ b ∧ b < w'.heap.size) y.1 dk dp dn nm fm U V ca cl cc

set_option maxRecDepth 100000 in
set_option maxHeartbeats 4000000 in
theorem take34b (ao : Option Addr) (n cap : Nat) (bs : Bs) (w : World) (ht : Tabs w) (h : RdB w w.heap.size ao n cap bs) (c : Nat) (hres : rDecl bs = .bad c) : Calls Tryd.prog 34 #[.slice ao n cap, .func (.func 35) #[] #[]] w (TkD w n (rDecl bs)) := by
  obtain ⟨w1, hw1, hb1, P1, Q1, hs1⟩ := two_newG w [.int .i64 0, .int .i64 0, .int .i64 0, .string { data := #[] }, .string { data := #[] }, .int .i64 0, .int .i64 0, .string { data := #[] }, .slice none 0 0, .slice none 0 0, .int .i64 0, .int .i64 0, .string { data := #[] }, .slice none 0 0, .slice none 0 0, .slice none 0 0] [.slice ao n cap, .int .i64 0] 38 83
  have K1 : Keep w w1 (fun _ => False) := Keep.of_below hb1 (Nat.le_refl _)
  have R1 : RSx w1 w.heap.size (w.heap.size + 1) (.ok bs) := ⟨ao, n, cap, Q1, h.keep K1 (fun _ s => s.elim), by omega, by omega⟩
  have hL := decl_any w.heap.size (w.heap.size + 1) (.ok bs) w1 (ht.keep K1 (fun _ s => s.elim)) ht.lt R1
  change Calls Tryd.prog 35 _ _ (DcP _ _ _ (rDecl bs)) at hL
  have HW : Hid _ := hw1
  clear hw1
  go_enter Tryd.func34, Tryd.ntmps34
  go_wp2_with fail
  have hw1 := HW.out
  rw [hw1]
  refine hL.mono ?_
  rintro x w2 ⟨L, dk, dp, dn, nm, fm, U, V, ca, cl, cc, rfl, R2, O2, I2, K2⟩
  clear hL
  have P2 := P1.keep K2 (by omega)
  rw [hres] at R2
  obtain ⟨hc0, bs', ao', n', cap', B2, D2, _, hc30⟩ := R2
  have K3 : Keep w2 (w2.alloc (.cells #[.int .i64 dk, .int .i64 dp, .int .i64 dn, .string nm, .string fm, .int .i64 U.k, .int .i64 U.n, .string U.s, .slice U.la U.ls.length U.lc, .slice U.a U.args.length U.c, .int .i64 V.k, .int .i64 V.n, .string V.s, .slice V.la V.ls.length V.lc, .slice V.a V.args.length V.c, .slice ca cl cc] 38)) (fun _ => False) := (Keep.refl w2 _).alloc _
  have e1' := (B2.keep K3 id).cell (j := 1) rfl
  have hd : ((c : Int) == 0) = false := beq_eq_false_iff_ne.2 (by omega)
  clear hw1
  go_wp2_with fail
  obtain ⟨w3, hw3⟩ : ∃ w3, w2.alloc (.cells #[.int .i64 dk, .int .i64 dp, .int .i64 dn, .string nm, .string fm, .int .i64 U.k, .int .i64 U.n, .string U.s, .slice U.la U.ls.length U.lc, .slice U.a U.args.length U.c, .int .i64 V.k, .int .i64 V.n, .string V.s, .slice V.la V.ls.length V.lc, .slice V.a V.args.length V.c, .slice ca cl cc] 38) = w3 := ⟨_, rfl⟩
  rw [hw3] at K3 ⊢
  clear hw3 e1'
  have B3 := B2.keep K3 id
  have P3 := P2.keep K3 id
  have e1 := B3.cell (j := 1) rfl
  have p0 := P3.cell (j := 0) rfl
  have f0 := P3.frozen 0
  have p1 := P3.cell (j := 1) rfl
  have f1 := P3.frozen 1
  have p2 := P3.cell (j := 2) rfl
  have f2 := P3.frozen 2
  have p3 := P3.cell (j := 3) rfl
  have f3 := P3.frozen 3
  have p4 := P3.cell (j := 4) rfl
  have f4 := P3.frozen 4
  have p5 := P3.cell (j := 5) rfl
  have f5 := P3.frozen 5
  have p6 := P3.cell (j := 6) rfl
  have f6 := P3.frozen 6
  have p7 := P3.cell (j := 7) rfl
  have f7 := P3.frozen 7
  have p8 := P3.cell (j := 8) rfl
  have f8 := P3.frozen 8
  have p9 := P3.cell (j := 9) rfl
  have f9 := P3.frozen 9
  have p10 := P3.cell (j := 10) rfl
  have f10 := P3.frozen 10
  have p11 := P3.cell (j := 11) rfl
  have f11 := P3.frozen 11
  have p12 := P3.cell (j := 12) rfl
  have f12 := P3.frozen 12
  have p13 := P3.cell (j := 13) rfl
  have f13 := P3.frozen 13
  have p14 := P3.cell (j := 14) rfl
  have f14 := P3.frozen 14
  have p15 := P3.cell (j := 15) rfl
  have f15 := P3.frozen 15
  have z2 := K2.size
  have z3 := K3.size
  have hne : w.heap.size ≠ w.heap.size + 1 := by omega
  have P4 : Blk ((((((((((((((((w3.setCell ⟨w.heap.size, 0, none⟩ (.int .i64 0)).setCell ⟨w.heap.size, 1, none⟩ (.int .i64 0)).setCell ⟨w.heap.size, 2, none⟩ (.int .i64 0)).setCell ⟨w.heap.size, 3, none⟩ (.string { data := #[] })).setCell ⟨w.heap.size, 4, none⟩ (.string { data := #[] })).setCell ⟨w.heap.size, 5, none⟩ (.int .i64 0)).setCell ⟨w.heap.size, 6, none⟩ (.int .i64 0)).setCell ⟨w.heap.size, 7, none⟩ (.string { data := #[] })).setCell ⟨w.heap.size, 8, none⟩ (.slice none 0 0)).setCell ⟨w.heap.size, 9, none⟩ (.slice none 0 0)).setCell ⟨w.heap.size, 10, none⟩ (.int .i64 0)).setCell ⟨w.heap.size, 11, none⟩ (.int .i64 0)).setCell ⟨w.heap.size, 12, none⟩ (.string { data := #[] })).setCell ⟨w.heap.size, 13, none⟩ (.slice none 0 0)).setCell ⟨w.heap.size, 14, none⟩ (.slice none 0 0)).setCell ⟨w.heap.size, 15, none⟩ (.slice none 0 0)) w.heap.size 38 [.int .i64 0, .int .i64 0, .int .i64 0, .string { data := #[] }, .string { data := #[] }, .int .i64 0, .int .i64 0, .string { data := #[] }, .slice none 0 0, .slice none 0 0, .int .i64 0, .int .i64 0, .string { data := #[] }, .slice none 0 0, .slice none 0 0, .slice none 0 0] := puts_blk P3 0 [.int .i64 0, .int .i64 0, .int .i64 0, .string { data := #[] }, .string { data := #[] }, .int .i64 0, .int .i64 0, .string { data := #[] }, .slice none 0 0, .slice none 0 0, .int .i64 0, .int .i64 0, .string { data := #[] }, .slice none 0 0, .slice none 0 0, .slice none 0 0]
  have K4 : Keep w3 ((((((((((((((((w3.setCell ⟨w.heap.size, 0, none⟩ (.int .i64 0)).setCell ⟨w.heap.size, 1, none⟩ (.int .i64 0)).setCell ⟨w.heap.size, 2, none⟩ (.int .i64 0)).setCell ⟨w.heap.size, 3, none⟩ (.string { data := #[] })).setCell ⟨w.heap.size, 4, none⟩ (.string { data := #[] })).setCell ⟨w.heap.size, 5, none⟩ (.int .i64 0)).setCell ⟨w.heap.size, 6, none⟩ (.int .i64 0)).setCell ⟨w.heap.size, 7, none⟩ (.string { data := #[] })).setCell ⟨w.heap.size, 8, none⟩ (.slice none 0 0)).setCell ⟨w.heap.size, 9, none⟩ (.slice none 0 0)).setCell ⟨w.heap.size, 10, none⟩ (.int .i64 0)).setCell ⟨w.heap.size, 11, none⟩ (.int .i64 0)).setCell ⟨w.heap.size, 12, none⟩ (.string { data := #[] })).setCell ⟨w.heap.size, 13, none⟩ (.slice none 0 0)).setCell ⟨w.heap.size, 14, none⟩ (.slice none 0 0)).setCell ⟨w.heap.size, 15, none⟩ (.slice none 0 0)) (· = w.heap.size) := puts_keep 0 [.int .i64 0, .int .i64 0, .int .i64 0, .string { data := #[] }, .string { data := #[] }, .int .i64 0, .int .i64 0, .string { data := #[] }, .slice none 0 0, .slice none 0 0, .int .i64 0, .int .i64 0, .string { data := #[] }, .slice none 0 0, .slice none 0 0, .slice none 0 0] (Keep.refl _ _)
  have s0 := P4.cell (j := 0) rfl
  have s1 := P4.cell (j := 1) rfl
  have s2 := P4.cell (j := 2) rfl
  have s3 := P4.cell (j := 3) rfl
  have s4 := P4.cell (j := 4) rfl
  have s5 := P4.cell (j := 5) rfl
  have s6 := P4.cell (j := 6) rfl
  have s7 := P4.cell (j := 7) rfl
  have s8 := P4.cell (j := 8) rfl
  have s9 := P4.cell (j := 9) rfl
  have s10 := P4.cell (j := 10) rfl
  have s11 := P4.cell (j := 11) rfl
  have s12 := P4.cell (j := 12) rfl
  have s13 := P4.cell (j := 13) rfl
  have s14 := P4.cell (j := 14) rfl
  have s15 := P4.cell (j := 15) rfl
  go_region_held3 (fun w' => w'.cell? ⟨w.heap.size, 0, none⟩ = some (.int .i64 0) ∧ w'.cell? ⟨w.heap.size, 1, none⟩ = some (.int .i64 0) ∧ w'.cell? ⟨w.heap.size, 2, none⟩ = some (.int .i64 0) ∧ w'.cell? ⟨w.heap.size, 3, none⟩ = some (.string { data := #[] }) ∧ w'.cell? ⟨w.heap.size, 4, none⟩ = some (.string { data := #[] }) ∧ w'.cell? ⟨w.heap.size, 5, none⟩ = some (.int .i64 0) ∧ w'.cell? ⟨w.heap.size, 6, none⟩ = some (.int .i64 0) ∧ w'.cell? ⟨w.heap.size, 7, none⟩ = some (.string { data := #[] }) ∧ w'.cell? ⟨w.heap.size, 8, none⟩ = some (.slice none 0 0) ∧ w'.cell? ⟨w.heap.size, 9, none⟩ = some (.slice none 0 0) ∧ w'.cell? ⟨w.heap.size, 10, none⟩ = some (.int .i64 0) ∧ w'.cell? ⟨w.heap.size, 11, none⟩ = some (.int .i64 0) ∧ w'.cell? ⟨w.heap.size, 12, none⟩ = some (.string { data := #[] }) ∧ w'.cell? ⟨w.heap.size, 13, none⟩ = some (.slice none 0 0) ∧ w'.cell? ⟨w.heap.size, 14, none⟩ = some (.slice none 0 0) ∧ w'.cell? ⟨w.heap.size, 15, none⟩ = some (.slice none 0 0) ∧ w'.cell? ⟨w.heap.size + 1, 1, none⟩ = some (.int .i64 (c : Int))) (go_keep) (fail)
  go_wp2_with fail
  have P5 := P4.drew
  have K5 := K4.drew
  clear s0 s1 s2 s3 s4 s5 s6 s7 s8 s9 s10 s11 s12 s13 s14 s15 P4 K4
  generalize World.drew ((((((((((((((((w3.setCell ⟨w.heap.size, 0, none⟩ (.int .i64 0)).setCell ⟨w.heap.size, 1, none⟩ (.int .i64 0)).setCell ⟨w.heap.size, 2, none⟩ (.int .i64 0)).setCell ⟨w.heap.size, 3, none⟩ (.string { data := #[] })).setCell ⟨w.heap.size, 4, none⟩ (.string { data := #[] })).setCell ⟨w.heap.size, 5, none⟩ (.int .i64 0)).setCell ⟨w.heap.size, 6, none⟩ (.int .i64 0)).setCell ⟨w.heap.size, 7, none⟩ (.string { data := #[] })).setCell ⟨w.heap.size, 8, none⟩ (.slice none 0 0)).setCell ⟨w.heap.size, 9, none⟩ (.slice none 0 0)).setCell ⟨w.heap.size, 10, none⟩ (.int .i64 0)).setCell ⟨w.heap.size, 11, none⟩ (.int .i64 0)).setCell ⟨w.heap.size, 12, none⟩ (.string { data := #[] })).setCell ⟨w.heap.size, 13, none⟩ (.slice none 0 0)).setCell ⟨w.heap.size, 14, none⟩ (.slice none 0 0)).setCell ⟨w.heap.size, 15, none⟩ (.slice none 0 0)) = W at P5 K5 ⊢
  have s0 := P5.cell (j := 0) rfl
  have s1 := P5.cell (j := 1) rfl
  have s2 := P5.cell (j := 2) rfl
  have s3 := P5.cell (j := 3) rfl
  have s4 := P5.cell (j := 4) rfl
  have s5 := P5.cell (j := 5) rfl
  have s6 := P5.cell (j := 6) rfl
  have s7 := P5.cell (j := 7) rfl
  have s8 := P5.cell (j := 8) rfl
  have s9 := P5.cell (j := 9) rfl
  have s10 := P5.cell (j := 10) rfl
  have s11 := P5.cell (j := 11) rfl
  have s12 := P5.cell (j := 12) rfl
  have s13 := P5.cell (j := 13) rfl
  have s14 := P5.cell (j := 14) rfl
  have s15 := P5.cell (j := 15) rfl
  refine bodyPost_ret (v := .tuple #[.agg #[.int .i64 0, .int .i64 0, .int .i64 0, .string { data := #[] }, .string { data := #[] }, .int .i64 0, .int .i64 0, .string { data := #[] }, .slice none 0 0, .slice none 0 0, .int .i64 0, .int .i64 0, .string { data := #[] }, .slice none 0 0, .slice none 0 0, .slice none 0 0], .int .i64 0, .int .i64 (c : Int)]) (by simp [results, Tryd.results34, go_sem, s0, s1, s2, s3, s4, s5, s6, s7, s8, s9, s10, s11, s12, s13, s14, s15]) rfl ⟨?_, ?_⟩
  · exact ((((K1.mono (fun _ s => s.elim)).trans K2 (fun i hi s => by omega)).trans K3 (fun i hi s => s.elim)).trans K5 (fun i hi s => by omega)).below (S := fun _ => False) (Nat.le_refl _) (fun _ s => s.elim)
  · rw [hres]; exact ⟨rfl, hc0, hc30⟩

set_option maxRecDepth 100000 in
set_option maxHeartbeats 4000000 in
theorem take34o (ao : Option Addr) (n cap : Nat) (bs : Bs) (w : World) (ht : Tabs w) (h : RdB w w.heap.size ao n cap bs) (y : _ × Bs) (hres : rDecl bs = .ok y) : Calls Tryd.prog 34 #[.slice ao n cap, .func (.func 35) #[] #[]] w (TkD w n (rDecl bs)) := by
  obtain ⟨w1, hw1, hb1, P1, Q1, hs1⟩ := two_newG w [.int .i64 0, .int .i64 0, .int .i64 0, .string { data := #[] }, .string { data := #[] }, .int .i64 0, .int .i64 0, .string { data := #[] }, .slice none 0 0, .slice none 0 0, .int .i64 0, .int .i64 0, .string { data := #[] }, .slice none 0 0, .slice none 0 0, .slice none 0 0] [.slice ao n cap, .int .i64 0] 38 83
  have K1 : Keep w w1 (fun _ => False) := Keep.of_below hb1 (Nat.le_refl _)
  have R1 : RSx w1 w.heap.size (w.heap.size + 1) (.ok bs) := ⟨ao, n, cap, Q1, h.keep K1 (fun _ s => s.elim), by omega, by omega⟩
  have hL := decl_any w.heap.size (w.heap.size + 1) (.ok bs) w1 (ht.keep K1 (fun _ s => s.elim)) ht.lt R1
  change Calls Tryd.prog 35 _ _ (DcP _ _ _ (rDecl bs)) at hL
  have HW : Hid _ := hw1
  clear hw1
  go_enter Tryd.func34, Tryd.ntmps34
  go_wp2_with fail
  have hw1 := HW.out
  rw [hw1]
  refine hL.mono ?_
  rintro x w2 ⟨L, dk, dp, dn, nm, fm, U, V, ca, cl, cc, rfl, R2, O2, I2, K2⟩
  clear hL
  have P2 := P1.keep K2 (by omega)
  rw [hres] at R2
  obtain ⟨ao', n', cap', B2, D2, _, _⟩ := R2
  obtain rfl := O2 y hres
  have hlen := D2.rd.len
  have K3 : Keep w2 (w2.alloc (.cells #[.int .i64 dk, .int .i64 dp, .int .i64 dn, .string nm, .string fm, .int .i64 U.k, .int .i64 U.n, .string U.s, .slice U.la U.ls.length U.lc, .slice U.a U.args.length U.c, .int .i64 V.k, .int .i64 V.n, .string V.s, .slice V.la V.ls.length V.lc, .slice V.a V.args.length V.c, .slice ca cl cc] 38)) (fun _ => False) := (Keep.refl w2 _).alloc _
  have X3' := Blk.new w2 38 [.int .i64 dk, .int .i64 dp, .int .i64 dn, .string nm, .string fm, .int .i64 U.k, .int .i64 U.n, .string U.s, .slice U.la U.ls.length U.lc, .slice U.a U.args.length U.c, .int .i64 V.k, .int .i64 V.n, .string V.s, .slice V.la V.ls.length V.lc, .slice V.a V.args.length V.c, .slice ca cl cc]
  have e1' := (B2.keep K3 id).cell (j := 1) rfl
  clear hw1
  go_wp2_with fail
  obtain ⟨w3, hw3⟩ : ∃ w3, w2.alloc (.cells #[.int .i64 dk, .int .i64 dp, .int .i64 dn, .string nm, .string fm, .int .i64 U.k, .int .i64 U.n, .string U.s, .slice U.la U.ls.length U.lc, .slice U.a U.args.length U.c, .int .i64 V.k, .int .i64 V.n, .string V.s, .slice V.la V.ls.length V.lc, .slice V.a V.args.length V.c, .slice ca cl cc] 38) = w3 := ⟨_, rfl⟩
  have X3 : Blk w3 w2.heap.size 38 [.int .i64 dk, .int .i64 dp, .int .i64 dn, .string nm, .string fm, .int .i64 U.k, .int .i64 U.n, .string U.s, .slice U.la U.ls.length U.lc, .slice U.a U.args.length U.c, .int .i64 V.k, .int .i64 V.n, .string V.s, .slice V.la V.ls.length V.lc, .slice V.a V.args.length V.c, .slice ca cl cc] := by rw [← hw3]; exact X3'
  rw [hw3] at K3 ⊢
  clear hw3 e1' X3'
  have B3 := B2.keep K3 id
  have P3 := P2.keep K3 id
  have e0 := B3.cell (j := 0) rfl
  have x0 := X3.cell (j := 0) rfl
  have x1 := X3.cell (j := 1) rfl
  have x2 := X3.cell (j := 2) rfl
  have x3 := X3.cell (j := 3) rfl
  have x4 := X3.cell (j := 4) rfl
  have x5 := X3.cell (j := 5) rfl
  have x6 := X3.cell (j := 6) rfl
  have x7 := X3.cell (j := 7) rfl
  have x8 := X3.cell (j := 8) rfl
  have x9 := X3.cell (j := 9) rfl
  have x10 := X3.cell (j := 10) rfl
  have x11 := X3.cell (j := 11) rfl
  have x12 := X3.cell (j := 12) rfl
  have x13 := X3.cell (j := 13) rfl
  have x14 := X3.cell (j := 14) rfl
  have x15 := X3.cell (j := 15) rfl
  have p0 := P3.cell (j := 0) rfl
  have f0 := P3.frozen 0
  have p1 := P3.cell (j := 1) rfl
  have f1 := P3.frozen 1
  have p2 := P3.cell (j := 2) rfl
  have f2 := P3.frozen 2
  have p3 := P3.cell (j := 3) rfl
  have f3 := P3.frozen 3
  have p4 := P3.cell (j := 4) rfl
  have f4 := P3.frozen 4
  have p5 := P3.cell (j := 5) rfl
  have f5 := P3.frozen 5
  have p6 := P3.cell (j := 6) rfl
  have f6 := P3.frozen 6
  have p7 := P3.cell (j := 7) rfl
  have f7 := P3.frozen 7
  have p8 := P3.cell (j := 8) rfl
  have f8 := P3.frozen 8
  have p9 := P3.cell (j := 9) rfl
  have f9 := P3.frozen 9
  have p10 := P3.cell (j := 10) rfl
  have f10 := P3.frozen 10
  have p11 := P3.cell (j := 11) rfl
  have f11 := P3.frozen 11
  have p12 := P3.cell (j := 12) rfl
  have f12 := P3.frozen 12
  have p13 := P3.cell (j := 13) rfl
  have f13 := P3.frozen 13
  have p14 := P3.cell (j := 14) rfl
  have f14 := P3.frozen 14
  have p15 := P3.cell (j := 15) rfl
  have f15 := P3.frozen 15
  have z2 := K2.size
  have z3 := K3.size
  have hz3 := X3.lt
  have hne : w.heap.size ≠ w.heap.size + 1 := by omega
  have hne2 : w.heap.size ≠ w2.heap.size := by omega
  have P4 : Blk ((((((((((((((((w3.setCell ⟨w.heap.size, 0, none⟩ (.int .i64 dk)).setCell ⟨w.heap.size, 1, none⟩ (.int .i64 dp)).setCell ⟨w.heap.size, 2, none⟩ (.int .i64 dn)).setCell ⟨w.heap.size, 3, none⟩ (.string nm)).setCell ⟨w.heap.size, 4, none⟩ (.string fm)).setCell ⟨w.heap.size, 5, none⟩ (.int .i64 U.k)).setCell ⟨w.heap.size, 6, none⟩ (.int .i64 U.n)).setCell ⟨w.heap.size, 7, none⟩ (.string U.s)).setCell ⟨w.heap.size, 8, none⟩ (.slice U.la U.ls.length U.lc)).setCell ⟨w.heap.size, 9, none⟩ (.slice U.a U.args.length U.c)).setCell ⟨w.heap.size, 10, none⟩ (.int .i64 V.k)).setCell ⟨w.heap.size, 11, none⟩ (.int .i64 V.n)).setCell ⟨w.heap.size, 12, none⟩ (.string V.s)).setCell ⟨w.heap.size, 13, none⟩ (.slice V.la V.ls.length V.lc)).setCell ⟨w.heap.size, 14, none⟩ (.slice V.a V.args.length V.c)).setCell ⟨w.heap.size, 15, none⟩ (.slice ca cl cc)) w.heap.size 38 [.int .i64 dk, .int .i64 dp, .int .i64 dn, .string nm, .string fm, .int .i64 U.k, .int .i64 U.n, .string U.s, .slice U.la U.ls.length U.lc, .slice U.a U.args.length U.c, .int .i64 V.k, .int .i64 V.n, .string V.s, .slice V.la V.ls.length V.lc, .slice V.a V.args.length V.c, .slice ca cl cc] := puts_blk P3 0 [.int .i64 dk, .int .i64 dp, .int .i64 dn, .string nm, .string fm, .int .i64 U.k, .int .i64 U.n, .string U.s, .slice U.la U.ls.length U.lc, .slice U.a U.args.length U.c, .int .i64 V.k, .int .i64 V.n, .string V.s, .slice V.la V.ls.length V.lc, .slice V.a V.args.length V.c, .slice ca cl cc]
  have K4 : Keep w3 ((((((((((((((((w3.setCell ⟨w.heap.size, 0, none⟩ (.int .i64 dk)).setCell ⟨w.heap.size, 1, none⟩ (.int .i64 dp)).setCell ⟨w.heap.size, 2, none⟩ (.int .i64 dn)).setCell ⟨w.heap.size, 3, none⟩ (.string nm)).setCell ⟨w.heap.size, 4, none⟩ (.string fm)).setCell ⟨w.heap.size, 5, none⟩ (.int .i64 U.k)).setCell ⟨w.heap.size, 6, none⟩ (.int .i64 U.n)).setCell ⟨w.heap.size, 7, none⟩ (.string U.s)).setCell ⟨w.heap.size, 8, none⟩ (.slice U.la U.ls.length U.lc)).setCell ⟨w.heap.size, 9, none⟩ (.slice U.a U.args.length U.c)).setCell ⟨w.heap.size, 10, none⟩ (.int .i64 V.k)).setCell ⟨w.heap.size, 11, none⟩ (.int .i64 V.n)).setCell ⟨w.heap.size, 12, none⟩ (.string V.s)).setCell ⟨w.heap.size, 13, none⟩ (.slice V.la V.ls.length V.lc)).setCell ⟨w.heap.size, 14, none⟩ (.slice V.a V.args.length V.c)).setCell ⟨w.heap.size, 15, none⟩ (.slice ca cl cc)) (· = w.heap.size) := puts_keep 0 [.int .i64 dk, .int .i64 dp, .int .i64 dn, .string nm, .string fm, .int .i64 U.k, .int .i64 U.n, .string U.s, .slice U.la U.ls.length U.lc, .slice U.a U.args.length U.c, .int .i64 V.k, .int .i64 V.n, .string V.s, .slice V.la V.ls.length V.lc, .slice V.a V.args.length V.c, .slice ca cl cc] (Keep.refl _ _)
  have s0 := P4.cell (j := 0) rfl
  have s1 := P4.cell (j := 1) rfl
  have s2 := P4.cell (j := 2) rfl
  have s3 := P4.cell (j := 3) rfl
  have s4 := P4.cell (j := 4) rfl
  have s5 := P4.cell (j := 5) rfl
  have s6 := P4.cell (j := 6) rfl
  have s7 := P4.cell (j := 7) rfl
  have s8 := P4.cell (j := 8) rfl
  have s9 := P4.cell (j := 9) rfl
  have s10 := P4.cell (j := 10) rfl
  have s11 := P4.cell (j := 11) rfl
  have s12 := P4.cell (j := 12) rfl
  have s13 := P4.cell (j := 13) rfl
  have s14 := P4.cell (j := 14) rfl
  have s15 := P4.cell (j := 15) rfl
  have hn1 : n ≤ 1099511627776 := h.le
  have hn2 : n' ≤ 1099511627776 := D2.le
  go_region_held3 (fun w' => w'.cell? ⟨w2.heap.size, 0, none⟩ = some (.int .i64 dk) ∧ w'.cell? ⟨w2.heap.size, 1, none⟩ = some (.int .i64 dp) ∧ w'.cell? ⟨w2.heap.size, 2, none⟩ = some (.int .i64 dn) ∧ w'.cell? ⟨w2.heap.size, 3, none⟩ = some (.string nm) ∧ w'.cell? ⟨w2.heap.size, 4, none⟩ = some (.string fm) ∧ w'.cell? ⟨w2.heap.size, 5, none⟩ = some (.int .i64 U.k) ∧ w'.cell? ⟨w2.heap.size, 6, none⟩ = some (.int .i64 U.n) ∧ w'.cell? ⟨w2.heap.size, 7, none⟩ = some (.string U.s) ∧ w'.cell? ⟨w2.heap.size, 8, none⟩ = some (.slice U.la U.ls.length U.lc) ∧ w'.cell? ⟨w2.heap.size, 9, none⟩ = some (.slice U.a U.args.length U.c) ∧ w'.cell? ⟨w2.heap.size, 10, none⟩ = some (.int .i64 V.k) ∧ w'.cell? ⟨w2.heap.size, 11, none⟩ = some (.int .i64 V.n) ∧ w'.cell? ⟨w2.heap.size, 12, none⟩ = some (.string V.s) ∧ w'.cell? ⟨w2.heap.size, 13, none⟩ = some (.slice V.la V.ls.length V.lc) ∧ w'.cell? ⟨w2.heap.size, 14, none⟩ = some (.slice V.a V.args.length V.c) ∧ w'.cell? ⟨w2.heap.size, 15, none⟩ = some (.slice ca cl cc) ∧ w'.cell? ⟨w.heap.size + 1, 0, none⟩ = some (.slice ao' n' cap')) (go_keep) (fail)
  go_wp2_with fail
  have hw : IntKind.i64.wrap ((n : Int) - (n' : Int)) = (n : Int) - (y.2.length : Int) := by rw [hlen]; rw [IntKind.wrap_i64]; omega
  have P5 := P4.drew
  have K5 := K4.drew
  clear s0 s1 s2 s3 s4 s5 s6 s7 s8 s9 s10 s11 s12 s13 s14 s15 P4 K4
  generalize World.drew ((((((((((((((((w3.setCell ⟨w.heap.size, 0, none⟩ (.int .i64 dk)).setCell ⟨w.heap.size, 1, none⟩ (.int .i64 dp)).setCell ⟨w.heap.size, 2, none⟩ (.int .i64 dn)).setCell ⟨w.heap.size, 3, none⟩ (.string nm)).setCell ⟨w.heap.size, 4, none⟩ (.string fm)).setCell ⟨w.heap.size, 5, none⟩ (.int .i64 U.k)).setCell ⟨w.heap.size, 6, none⟩ (.int .i64 U.n)).setCell ⟨w.heap.size, 7, none⟩ (.string U.s)).setCell ⟨w.heap.size, 8, none⟩ (.slice U.la U.ls.length U.lc)).setCell ⟨w.heap.size, 9, none⟩ (.slice U.a U.args.length U.c)).setCell ⟨w.heap.size, 10, none⟩ (.int .i64 V.k)).setCell ⟨w.heap.size, 11, none⟩ (.int .i64 V.n)).setCell ⟨w.heap.size, 12, none⟩ (.string V.s)).setCell ⟨w.heap.size, 13, none⟩ (.slice V.la V.ls.length V.lc)).setCell ⟨w.heap.size, 14, none⟩ (.slice V.a V.args.length V.c)).setCell ⟨w.heap.size, 15, none⟩ (.slice ca cl cc)) = W at P5 K5 ⊢
  have s0 := P5.cell (j := 0) rfl
  have s1 := P5.cell (j := 1) rfl
  have s2 := P5.cell (j := 2) rfl
  have s3 := P5.cell (j := 3) rfl
  have s4 := P5.cell (j := 4) rfl
  have s5 := P5.cell (j := 5) rfl
  have s6 := P5.cell (j := 6) rfl
  have s7 := P5.cell (j := 7) rfl
  have s8 := P5.cell (j := 8) rfl
  have s9 := P5.cell (j := 9) rfl
  have s10 := P5.cell (j := 10) rfl
  have s11 := P5.cell (j := 11) rfl
  have s12 := P5.cell (j := 12) rfl
  have s13 := P5.cell (j := 13) rfl
  have s14 := P5.cell (j := 14) rfl
  have s15 := P5.cell (j := 15) rfl
  have z4 := K5.size
  refine bodyPost_ret (v := .tuple #[.agg #[.int .i64 dk, .int .i64 dp, .int .i64 dn, .string nm, .string fm, .int .i64 U.k, .int .i64 U.n, .string U.s, .slice U.la U.ls.length U.lc, .slice U.a U.args.length U.c, .int .i64 V.k, .int .i64 V.n, .string V.s, .slice V.la V.ls.length V.lc, .slice V.a V.args.length V.c, .slice ca cl cc], .int .i64 ((n : Int) - (y.2.length : Int)), .int .i64 0]) (by simp [results, Tryd.results34, go_sem, s0, s1, s2, s3, s4, s5, s6, s7, s8, s9, s10, s11, s12, s13, s14, s15, hw]) rfl ⟨?_, ?_⟩
  · exact ((((K1.mono (fun _ s => s.elim)).trans K2 (fun i hi s => by omega)).trans K3 (fun i hi s => s.elim)).trans K5 (fun i hi s => by omega)).below (S := fun _ => False) (Nat.le_refl _) (fun _ s => s.elim)
  · rw [hres]
    exact ⟨dk, dp, dn, nm, fm, U, V, ca, cl, cc, rfl, I2.carry (fun b hb => (K5.block b (by omega) (by omega)).trans (K3.block b hb.2 id)) (fun b hb => ⟨by omega, Nat.lt_of_lt_of_le (Nat.lt_of_lt_of_le hb.2 z3) z4⟩)⟩

theorem take34 (ao : Option Addr) (n cap : Nat) (bs : Bs) (w : World) (ht : Tabs w) (h : RdB w w.heap.size ao n cap bs) : Calls Tryd.prog 34 #[.slice ao n cap, .func (.func 35) #[] #[]] w (TkD w n (rDecl bs)) := by
  cases hres : rDecl bs with
  | bad c => rw [← hres]; exact take34b ao n cap bs w ht h c hres
  | ok y => rw [← hres]; exact take34o ao n cap bs w ht h y hres

set_option maxRecDepth 100000 in
set_option maxHeartbeats 4000000 in
theorem takeDecl_any (ao : Option Addr) (n cap : Nat) (bs : Bs) (w : World) (ht : Tabs w) (h : RdB w w.heap.size ao n cap bs) : Calls Tryd.prog 12 #[.slice ao n cap] w (TkD w n (rDecl bs)) := by
  obtain ⟨w1, hw1, hb1, P1, hs1⟩ := one_newG w [.int .i64 0, .int .i64 0, .int .i64 0, .string { data := #[] }, .string { data := #[] }, .int .i64 0, .int .i64 0, .string { data := #[] }, .slice none 0 0, .slice none 0 0, .int .i64 0, .int .i64 0, .string { data := #[] }, .slice none 0 0, .slice none 0 0, .slice none 0 0] 38
  have K1 : Keep w w1 (fun _ => False) := Keep.of_below hb1 (Nat.le_refl _)
  have h1 : RdB w1 w1.heap.size ao n cap bs := ⟨(h.keep K1 (fun _ s => s.elim)).rd, fun a ha => by have := h.low a ha; omega, h.le⟩
  have hT := take34 ao n cap bs w1 (ht.keep K1 (fun _ s => s.elim)) h1
  go_enter Tryd.func12, Tryd.ntmps12
  go_wp2_with fail
  refine hT.mono ?_
  rintro x w2 ⟨hb2, hx⟩
  clear hT
  have z2 := hb2.size
  have P2 := P1.below hb2 P1.lt
  have p0 := P2.cell (j := 0) rfl
  have f0 := P2.frozen 0
  have p1 := P2.cell (j := 1) rfl
  have f1 := P2.frozen 1
  have p2 := P2.cell (j := 2) rfl
  have f2 := P2.frozen 2
  have p3 := P2.cell (j := 3) rfl
  have f3 := P2.frozen 3
  have p4 := P2.cell (j := 4) rfl
  have f4 := P2.frozen 4
  have p5 := P2.cell (j := 5) rfl
  have f5 := P2.frozen 5
  have p6 := P2.cell (j := 6) rfl
  have f6 := P2.frozen 6
  have p7 := P2.cell (j := 7) rfl
  have f7 := P2.frozen 7
  have p8 := P2.cell (j := 8) rfl
  have f8 := P2.frozen 8
  have p9 := P2.cell (j := 9) rfl
  have f9 := P2.frozen 9
  have p10 := P2.cell (j := 10) rfl
  have f10 := P2.frozen 10
  have p11 := P2.cell (j := 11) rfl
  have f11 := P2.frozen 11
  have p12 := P2.cell (j := 12) rfl
  have f12 := P2.frozen 12
  have p13 := P2.cell (j := 13) rfl
  have f13 := P2.frozen 13
  have p14 := P2.cell (j := 14) rfl
  have f14 := P2.frozen 14
  have p15 := P2.cell (j := 15) rfl
  have f15 := P2.frozen 15
  cases hres : rDecl bs with
  | bad c =>
    rw [hres] at hx
    obtain ⟨rfl, hc0, hc30⟩ := hx
    have P4 : Blk ((((((((((((((((w2.setCell ⟨w.heap.size, 0, none⟩ (.int .i64 0)).setCell ⟨w.heap.size, 1, none⟩ (.int .i64 0)).setCell ⟨w.heap.size, 2, none⟩ (.int .i64 0)).setCell ⟨w.heap.size, 3, none⟩ (.string { data := #[] })).setCell ⟨w.heap.size, 4, none⟩ (.string { data := #[] })).setCell ⟨w.heap.size, 5, none⟩ (.int .i64 0)).setCell ⟨w.heap.size, 6, none⟩ (.int .i64 0)).setCell ⟨w.heap.size, 7, none⟩ (.string { data := #[] })).setCell ⟨w.heap.size, 8, none⟩ (.slice none 0 0)).setCell ⟨w.heap.size, 9, none⟩ (.slice none 0 0)).setCell ⟨w.heap.size, 10, none⟩ (.int .i64 0)).setCell ⟨w.heap.size, 11, none⟩ (.int .i64 0)).setCell ⟨w.heap.size, 12, none⟩ (.string { data := #[] })).setCell ⟨w.heap.size, 13, none⟩ (.slice none 0 0)).setCell ⟨w.heap.size, 14, none⟩ (.slice none 0 0)).setCell ⟨w.heap.size, 15, none⟩ (.slice none 0 0)) w.heap.size 38 [.int .i64 0, .int .i64 0, .int .i64 0, .string { data := #[] }, .string { data := #[] }, .int .i64 0, .int .i64 0, .string { data := #[] }, .slice none 0 0, .slice none 0 0, .int .i64 0, .int .i64 0, .string { data := #[] }, .slice none 0 0, .slice none 0 0, .slice none 0 0] := puts_blk P2 0 [.int .i64 0, .int .i64 0, .int .i64 0, .string { data := #[] }, .string { data := #[] }, .int .i64 0, .int .i64 0, .string { data := #[] }, .slice none 0 0, .slice none 0 0, .int .i64 0, .int .i64 0, .string { data := #[] }, .slice none 0 0, .slice none 0 0, .slice none 0 0]
    have K4 : Keep w2 ((((((((((((((((w2.setCell ⟨w.heap.size, 0, none⟩ (.int .i64 0)).setCell ⟨w.heap.size, 1, none⟩ (.int .i64 0)).setCell ⟨w.heap.size, 2, none⟩ (.int .i64 0)).setCell ⟨w.heap.size, 3, none⟩ (.string { data := #[] })).setCell ⟨w.heap.size, 4, none⟩ (.string { data := #[] })).setCell ⟨w.heap.size, 5, none⟩ (.int .i64 0)).setCell ⟨w.heap.size, 6, none⟩ (.int .i64 0)).setCell ⟨w.heap.size, 7, none⟩ (.string { data := #[] })).setCell ⟨w.heap.size, 8, none⟩ (.slice none 0 0)).setCell ⟨w.heap.size, 9, none⟩ (.slice none 0 0)).setCell ⟨w.heap.size, 10, none⟩ (.int .i64 0)).setCell ⟨w.heap.size, 11, none⟩ (.int .i64 0)).setCell ⟨w.heap.size, 12, none⟩ (.string { data := #[] })).setCell ⟨w.heap.size, 13, none⟩ (.slice none 0 0)).setCell ⟨w.heap.size, 14, none⟩ (.slice none 0 0)).setCell ⟨w.heap.size, 15, none⟩ (.slice none 0 0)) (· = w.heap.size) := puts_keep 0 [.int .i64 0, .int .i64 0, .int .i64 0, .string { data := #[] }, .string { data := #[] }, .int .i64 0, .int .i64 0, .string { data := #[] }, .slice none 0 0, .slice none 0 0, .int .i64 0, .int .i64 0, .string { data := #[] }, .slice none 0 0, .slice none 0 0, .slice none 0 0] (Keep.refl _ _)
    have s0 := P4.cell (j := 0) rfl
    have s1 := P4.cell (j := 1) rfl
    have s2 := P4.cell (j := 2) rfl
    have s3 := P4.cell (j := 3) rfl
    have s4 := P4.cell (j := 4) rfl
    have s5 := P4.cell (j := 5) rfl
    have s6 := P4.cell (j := 6) rfl
    have s7 := P4.cell (j := 7) rfl
    have s8 := P4.cell (j := 8) rfl
    have s9 := P4.cell (j := 9) rfl
    have s10 := P4.cell (j := 10) rfl
    have s11 := P4.cell (j := 11) rfl
    have s12 := P4.cell (j := 12) rfl
    have s13 := P4.cell (j := 13) rfl
    have s14 := P4.cell (j := 14) rfl
    have s15 := P4.cell (j := 15) rfl
    clear hw1
    go_wp2_with fail
    refine bodyPost_ret (v := .tuple #[.agg #[.int .i64 0, .int .i64 0, .int .i64 0, .string { data := #[] }, .string { data := #[] }, .int .i64 0, .int .i64 0, .string { data := #[] }, .slice none 0 0, .slice none 0 0, .int .i64 0, .int .i64 0, .string { data := #[] }, .slice none 0 0, .slice none 0 0, .slice none 0 0], .int .i64 0, .int .i64 (c : Int)]) (by simp [results, Tryd.results12, go_sem, s0, s1, s2, s3, s4, s5, s6, s7, s8, s9, s10, s11, s12, s13, s14, s15]) rfl ⟨?_, ?_⟩
    · exact (hb1.trans (hb2.mono (by omega))).trans (K4.below (by omega) (by omega))
    · rw [hres]; exact ⟨rfl, hc0, hc30⟩
  | ok y =>
    rw [hres] at hx
    obtain ⟨dk, dp, dn, nm, fm, U, V, ca, cl, cc, rfl, I2⟩ := hx
    have P4 : Blk ((((((((((((((((w2.setCell ⟨w.heap.size, 0, none⟩ (.int .i64 dk)).setCell ⟨w.heap.size, 1, none⟩ (.int .i64 dp)).setCell ⟨w.heap.size, 2, none⟩ (.int .i64 dn)).setCell ⟨w.heap.size, 3, none⟩ (.string nm)).setCell ⟨w.heap.size, 4, none⟩ (.string fm)).setCell ⟨w.heap.size, 5, none⟩ (.int .i64 U.k)).setCell ⟨w.heap.size, 6, none⟩ (.int .i64 U.n)).setCell ⟨w.heap.size, 7, none⟩ (.string U.s)).setCell ⟨w.heap.size, 8, none⟩ (.slice U.la U.ls.length U.lc)).setCell ⟨w.heap.size, 9, none⟩ (.slice U.a U.args.length U.c)).setCell ⟨w.heap.size, 10, none⟩ (.int .i64 V.k)).setCell ⟨w.heap.size, 11, none⟩ (.int .i64 V.n)).setCell ⟨w.heap.size, 12, none⟩ (.string V.s)).setCell ⟨w.heap.size, 13, none⟩ (.slice V.la V.ls.length V.lc)).setCell ⟨w.heap.size, 14, none⟩ (.slice V.a V.args.length V.c)).setCell ⟨w.heap.size, 15, none⟩ (.slice ca cl cc)) w.heap.size 38 [.int .i64 dk, .int .i64 dp, .int .i64 dn, .string nm, .string fm, .int .i64 U.k, .int .i64 U.n, .string U.s, .slice U.la U.ls.length U.lc, .slice U.a U.args.length U.c, .int .i64 V.k, .int .i64 V.n, .string V.s, .slice V.la V.ls.length V.lc, .slice V.a V.args.length V.c, .slice ca cl cc] := puts_blk P2 0 [.int .i64 dk, .int .i64 dp, .int .i64 dn, .string nm, .string fm, .int .i64 U.k, .int .i64 U.n, .string U.s, .slice U.la U.ls.length U.lc, .slice U.a U.args.length U.c, .int .i64 V.k, .int .i64 V.n, .string V.s, .slice V.la V.ls.length V.lc, .slice V.a V.args.length V.c, .slice ca cl cc]
    have K4 : Keep w2 ((((((((((((((((w2.setCell ⟨w.heap.size, 0, none⟩ (.int .i64 dk)).setCell ⟨w.heap.size, 1, none⟩ (.int .i64 dp)).setCell ⟨w.heap.size, 2, none⟩ (.int .i64 dn)).setCell ⟨w.heap.size, 3, none⟩ (.string nm)).setCell ⟨w.heap.size, 4, none⟩ (.string fm)).setCell ⟨w.heap.size, 5, none⟩ (.int .i64 U.k)).setCell ⟨w.heap.size, 6, none⟩ (.int .i64 U.n)).setCell ⟨w.heap.size, 7, none⟩ (.string U.s)).setCell ⟨w.heap.size, 8, none⟩ (.slice U.la U.ls.length U.lc)).setCell ⟨w.heap.size, 9, none⟩ (.slice U.a U.args.length U.c)).setCell ⟨w.heap.size, 10, none⟩ (.int .i64 V.k)).setCell ⟨w.heap.size, 11, none⟩ (.int .i64 V.n)).setCell ⟨w.heap.size, 12, none⟩ (.string V.s)).setCell ⟨w.heap.size, 13, none⟩ (.slice V.la V.ls.length V.lc)).setCell ⟨w.heap.size, 14, none⟩ (.slice V.a V.args.length V.c)).setCell ⟨w.heap.size, 15, none⟩ (.slice ca cl cc)) (· = w.heap.size) := puts_keep 0 [.int .i64 dk, .int .i64 dp, .int .i64 dn, .string nm, .string fm, .int .i64 U.k, .int .i64 U.n, .string U.s, .slice U.la U.ls.length U.lc, .slice U.a U.args.length U.c, .int .i64 V.k, .int .i64 V.n, .string V.s, .slice V.la V.ls.length V.lc, .slice V.a V.args.length V.c, .slice ca cl cc] (Keep.refl _ _)
    have s0 := P4.cell (j := 0) rfl
    have s1 := P4.cell (j := 1) rfl
    have s2 := P4.cell (j := 2) rfl
    have s3 := P4.cell (j := 3) rfl
    have s4 := P4.cell (j := 4) rfl
    have s5 := P4.cell (j := 5) rfl
    have s6 := P4.cell (j := 6) rfl
    have s7 := P4.cell (j := 7) rfl
    have s8 := P4.cell (j := 8) rfl
    have s9 := P4.cell (j := 9) rfl
    have s10 := P4.cell (j := 10) rfl
    have s11 := P4.cell (j := 11) rfl
    have s12 := P4.cell (j := 12) rfl
    have s13 := P4.cell (j := 13) rfl
    have s14 := P4.cell (j := 14) rfl
    have s15 := P4.cell (j := 15) rfl
    clear hw1
    go_wp2_with fail
    clear s0 s1 s2 s3 s4 s5 s6 s7 s8 s9 s10 s11 s12 s13 s14 s15
    generalize ((((((((((((((((w2.setCell ⟨w.heap.size, 0, none⟩ (.int .i64 dk)).setCell ⟨w.heap.size, 1, none⟩ (.int .i64 dp)).setCell ⟨w.heap.size, 2, none⟩ (.int .i64 dn)).setCell ⟨w.heap.size, 3, none⟩ (.string nm)).setCell ⟨w.heap.size, 4, none⟩ (.string fm)).setCell ⟨w.heap.size, 5, none⟩ (.int .i64 U.k)).setCell ⟨w.heap.size, 6, none⟩ (.int .i64 U.n)).setCell ⟨w.heap.size, 7, none⟩ (.string U.s)).setCell ⟨w.heap.size, 8, none⟩ (.slice U.la U.ls.length U.lc)).setCell ⟨w.heap.size, 9, none⟩ (.slice U.a U.args.length U.c)).setCell ⟨w.heap.size, 10, none⟩ (.int .i64 V.k)).setCell ⟨w.heap.size, 11, none⟩ (.int .i64 V.n)).setCell ⟨w.heap.size, 12, none⟩ (.string V.s)).setCell ⟨w.heap.size, 13, none⟩ (.slice V.la V.ls.length V.lc)).setCell ⟨w.heap.size, 14, none⟩ (.slice V.a V.args.length V.c)).setCell ⟨w.heap.size, 15, none⟩ (.slice ca cl cc)) = W at P4 K4 ⊢
    have s0 := P4.cell (j := 0) rfl
    have s1 := P4.cell (j := 1) rfl
    have s2 := P4.cell (j := 2) rfl
    have s3 := P4.cell (j := 3) rfl
    have s4 := P4.cell (j := 4) rfl
    have s5 := P4.cell (j := 5) rfl
    have s6 := P4.cell (j := 6) rfl
    have s7 := P4.cell (j := 7) rfl
    have s8 := P4.cell (j := 8) rfl
    have s9 := P4.cell (j := 9) rfl
    have s10 := P4.cell (j := 10) rfl
    have s11 := P4.cell (j := 11) rfl
    have s12 := P4.cell (j := 12) rfl
    have s13 := P4.cell (j := 13) rfl
    have s14 := P4.cell (j := 14) rfl
    have s15 := P4.cell (j := 15) rfl
    have z4 := K4.size
    refine bodyPost_ret (v := .tuple #[.agg #[.int .i64 dk, .int .i64 dp, .int .i64 dn, .string nm, .string fm, .int .i64 U.k, .int .i64 U.n, .string U.s, .slice U.la U.ls.length U.lc, .slice U.a U.args.length U.c, .int .i64 V.k, .int .i64 V.n, .string V.s, .slice V.la V.ls.length V.lc, .slice V.a V.args.length V.c, .slice ca cl cc], .int .i64 ((n : Int) - (y.2.length : Int)), .int .i64 0]) (by simp [results, Tryd.results12, go_sem, s0, s1, s2, s3, s4, s5, s6, s7, s8, s9, s10, s11, s12, s13, s14, s15]) rfl ⟨?_, ?_⟩
    · exact (hb1.trans (hb2.mono (by omega))).trans (K4.below (by omega) (by omega))
    · rw [hres]
      exact ⟨dk, dp, dn, nm, fm, U, V, ca, cl, cc, rfl, I2.carry (fun b hb => K4.block b hb.2 (by omega)) (fun b hb => ⟨by omega, Nat.lt_of_lt_of_le hb.2 z4⟩)⟩
end Go.Proofs.YtkbpmpcbajnmlaaDoor
