/- The walks of the program's newWriter at nil, and of codec.Level at nil. No condition but that the level is formed as its Kind asks, and that what is written stays short. -/
import Derived.Test.YtkbpmpcbajnmlaaDoorWr2
import Derived.Test.YtkbpmpcbajnmlaaDoorWu2
namespace Go.Proofs.YtkbpmpcbajnmlaaDoor
open Go.RowKit

theorem one_newE (w : World) (l : List Value) (t : TypeId) : ∃ w1, w.alloc (.cells l.toArray t) = w1 ∧ Below w.heap.size w w1 ∧ Blk w1 w.heap.size t l ∧ w1.heap.size = w.heap.size + 1 :=
  ⟨_, rfl, (Below.refl _ _).alloc (Nat.le_refl _) _, Blk.new _ _ _, by simp⟩

set_option maxRecDepth 100000 in
theorem neww_nil (w : World) : Calls Tryd.prog 37 #[.slice none 0 0] w fun x w' => ∃ g, x = .returned (.pointer (some ⟨g, 0, none⟩)) ∧ Blk w' g 75 [.slice none 0 0, .bool false] ∧ w.heap.size ≤ g ∧ Below w.heap.size w w' := by
  obtain ⟨w1, hw1, hb1, B1, -⟩ := one_newE w [.slice none 0 0, .bool false] 75
  have H1 : Hid _ := hw1
  clear hw1
  go_enter Tryd.func37, Tryd.ntmps37
  go_wp2_with fail
  rw [H1.out]
  go_ret
  exact ⟨_, rfl, B1, Nat.le_refl _, hb1⟩

theorem WS.rd {w : World} {B g : Nat} {q : Option Nat} {bs : Bs} (h : WS w B g 75 [] q bs) : ∃ ao n cap, Blk w g 75 [.slice ao n cap, .bool false] ∧ Rd w ao n cap bs := by
  obtain ⟨ao, n, cap, h1, h2⟩ := h.st
  rcases h2 with ⟨_, rfl, rfl, rfl, rfl⟩ | ⟨k, _, rfl, h3⟩
  · exact ⟨none, 0, 0, h1, Rd.none' w none⟩
  · exact ⟨_, n, cap, h1, h3.rd⟩

set_option maxRecDepth 100000 in
theorem level_nil (k n : Int) (args : List Lv) (a : Option Addr) (cap : Nat) (hwf : WfL (.mk k n args)) (hsz : (Lv.mk k n args).size ≤ 65536) (hs : (eL (.mk k n args)).length ≤ 1000000) (w : World) (ht : Tabs w) (hN : Node w (· < w.heap.size) k n args a cap) :
    Calls Tryd.prog 19 #[.slice none 0 0, .agg #[.int .i64 k, .int .i64 n, .slice a args.length cap]] w fun x w' => ∃ ao m c, x = .returned (.slice ao m c) ∧ Rd w' ao m c (eL (.mk k n args)) ∧ Below w.heap.size w w' := by
  obtain ⟨w1, hw1, hb1, B1, hs1⟩ := one_newE w [.int .i64 k, .int .i64 n, .slice a args.length cap] 27
  have N1 : Node w1 (· < w.heap.size + 1) k n args a cap := hN.carry (fun b hb => hb1.block b hb) (fun b hb => by omega)
  have T1 : Tabs w1 := ht.carry (fun i hi => hb1.block i (by have := ht.lt; omega))
  have h2 := ht.lt
  have H1 : Hid _ := hw1
  clear hw1 hN ht
  go_enter Tryd.func19, Tryd.ntmps19
  go_wp2_with fail
  rw [H1.out]
  refine (neww_nil w1).mono ?_
  rintro x w2 ⟨g, rfl, G2, hg, hb2⟩
  have B2 := B1.below hb2 B1.lt
  have hW : WS w2 (w.heap.size + 1) g 75 [] none [] := ⟨⟨none, 0, 0, G2, .inl ⟨rfl, rfl, rfl, rfl, rfl⟩⟩, by omega, by simp, .inl rfl⟩
  have T2 : Tabs w2 := T1.carry (fun i hi => hb2.block i (by omega))
  have hA : LAt w2 (· < w.heap.size + 1) w.heap.size 0 k n args a cap := ⟨B2.cell (j := 0) rfl, B2.cell (j := 1) rfl, B2.cell (j := 2) rfl, N1.carry (fun b hb => hb2.block b (by omega)) (fun b hb => hb)⟩
  have cL := wlevel_any (.mk k n args) hwf w2 (w.heap.size + 1) g none [] w.heap.size 0 k n args a cap rfl hW T2 (by omega) hA (by omega) hsz (by simpa using hs)
  rw [List.nil_append] at cL
  have b2 : Below w.heap.size w w2 := hb1.trans (hb2.mono hb1.size)
  clear hW hA T2 T1 N1 B1 B2 G2 H1 hb1 hs hsz hwf
  go_wp2_with fail
  refine cL.mono ?_
  rintro x w3 ⟨rfl, q', hW3, hk3, _⟩
  obtain ⟨ao, m, c, G3, R3⟩ := hW3.rd
  have x0 := G3.cell (j := 0) rfl
  have b3 : Below w.heap.size w w3 := b2.trans (hk3.below b2.size (fun j e => e.elim (fun e => by omega) (fun e => by cases e)))
  clear cL G3 hW3 hk3 b2
  go_wp2_with fail
  go_ret
  exact ⟨ao, m, c, rfl, R3, b3⟩
end Go.Proofs.YtkbpmpcbajnmlaaDoor

/- The walk of the program's codec.Term at nil. No condition but that the term is formed as its Kinds ask, and that what is written stays short. -/
namespace Go.Proofs.YtkbpmpcbajnmlaaDoor
open Go.RowKit

set_option maxRecDepth 100000 in
theorem term_nil (T : Tr) (hwf : WfT T.pl) (hs : (eT T.pl).length ≤ 90000) (w : World) (ht : Tabs w) (hin : TIn w (· < w.heap.size) T) :
    Calls Tryd.prog 20 #[.slice none 0 0, .agg #[.int .i64 T.k, .int .i64 T.n, .string T.s, .slice T.la T.ls.length T.lc, .slice T.a T.args.length T.c]] w fun x w' => ∃ ao m c, x = .returned (.slice ao m c) ∧ Rd w' ao m c (eT T.pl) ∧ Below w.heap.size w w' := by
  obtain ⟨w1, hw1, hb1, B1, hs1⟩ := one_newE w [.int .i64 T.k, .int .i64 T.n, .string T.s, .slice T.la T.ls.length T.lc, .slice T.a T.args.length T.c] 33
  have T1 : Tabs w1 := ht.carry (fun i hi => hb1.block i (by have := ht.lt; omega))
  have h2 := ht.lt
  have N1 : TIn w1 (· < w.heap.size + 1) T := TIn.carry (w := w) (S := (· < w.heap.size)) (fun b hb => hb1.block b hb) (fun b hb => by omega) T hin
  have H1 : Hid _ := hw1
  clear hw1 ht hin
  go_enter Tryd.func20, Tryd.ntmps20
  go_wp2_with fail
  rw [H1.out]
  refine (neww_nil w1).mono ?_
  rintro x w2 ⟨g, rfl, G2, hg, hb2⟩
  have B2 := B1.below hb2 B1.lt
  have hW : WS w2 (w.heap.size + 1) g 75 [] none [] := ⟨⟨none, 0, 0, G2, .inl ⟨rfl, rfl, rfl, rfl, rfl⟩⟩, by omega, by simp, .inl rfl⟩
  have T2 : Tabs w2 := T1.carry (fun i hi => hb2.block i (by omega))
  have hA : TCells w2 w.heap.size 0 T := ⟨B2.cell (j := 0) rfl, B2.cell (j := 1) rfl, B2.cell (j := 2) rfl, B2.cell (j := 3) rfl, B2.cell (j := 4) rfl⟩
  have N2 : TIn w2 (· < w.heap.size + 1) T := TIn.carry (w := w1) (S := (· < w.heap.size + 1)) (fun b hb => hb2.block b (by omega)) (fun b hb => hb) T N1
  have cL := wterm_any T w.heap.size 0 w2 (w.heap.size + 1) g none [] hW T2 (by omega) hA (by omega) N2 hwf (by simpa using hs)
  rw [List.nil_append] at cL
  have b2 : Below w.heap.size w w2 := hb1.trans (hb2.mono hb1.size)
  clear hW hA T2 T1 N1 N2 B1 B2 G2 H1 hb1 hs hwf
  go_wp2_with fail
  refine cL.mono ?_
  rintro x w3 ⟨rfl, q', hW3, hk3, _⟩
  obtain ⟨ao, m, c, G3, R3⟩ := hW3.rd
  have x0 := G3.cell (j := 0) rfl
  have b3 : Below w.heap.size w w3 := b2.trans (hk3.below b2.size (fun j e => e.elim (fun e => by omega) (fun e => by cases e)))
  clear cL G3 hW3 hk3 b2
  go_wp2_with fail
  go_ret
  exact ⟨ao, m, c, rfl, R3, b3⟩
end Go.Proofs.YtkbpmpcbajnmlaaDoor
