/- The walk of the program's codec.Term at nil, with its row its own; append of one byte to such a row. No condition but that the term is formed as its Kinds ask, and that what is written stays short. -/
import Derived.Test.YtkbpmpcbajnmlaaDoorEn2
namespace Go.Proofs.YtkbpmpcbajnmlaaDoor
open Go.RowKit

theorem WS.app {w : World} {B g : Nat} {q : Option Nat} {bs : Bs} (h : WS w B g 75 [] q bs) : ∃ ao n cap, Blk w g 75 [.slice ao n cap, .bool false] ∧ App 5 B w ao n cap bs := by
  obtain ⟨ao, n, cap, h1, h2⟩ := h.st
  rcases h2 with ⟨_, rfl, rfl, rfl, rfl⟩ | ⟨k, _, rfl, h3⟩
  · exact ⟨none, 0, 0, h1, App.nil 5 B w⟩
  · exact ⟨_, n, cap, h1, h3.app⟩

/-- append of one byte: what it was appended to reads as it did. -/
theorem run_append_one (w : World) (ty : TypeId) (i : TypeInfo) (hi : Tryd.prog.info? 5 = some i) (hz : i.zero = some (.int .u8 0)) (hs1 : i.size = 1) (hb1 : i.bytes = 1)
    (B : Nat) (hB : B ≤ w.heap.size) {ao : Option Addr} {n cap : Nat} {bs : List UInt8} (hA : App 5 B w ao n cap bs) (x : Value) (u : UInt8) (hs : Src Tryd.prog 1 22 x 1 ([u].map bval) w) (hle : n + 1 ≤ 70368744177664) :
    ∃ g cap' w', (Builtin.append_ #[22, 22] ty #[.slice ao n cap, x]).run Tryd.prog w = .ok (.slice (some ⟨g, 0, none⟩) (n + 1) cap') w' ∧ Rd w' (some ⟨g, 0, none⟩) (n + 1) cap' (bs ++ [u]) ∧ Rd w' ao n cap bs ∧ Below B w w' := by
  have hrd := hA.1
  have full : n = cap → ∃ g cap' w', (Builtin.append_ #[22, 22] ty #[.slice ao n cap, x]).run Tryd.prog w = .ok (.slice (some ⟨g, 0, none⟩) (n + 1) cap') w' ∧ Rd w' (some ⟨g, 0, none⟩) (n + 1) cap' (bs ++ [u]) ∧ Rd w' ao n cap bs ∧ Below B w w' := fun h => by
    obtain ⟨g, cap', w', h1, h2, h3, _, _⟩ := run_append_bytes (P := Tryd.prog) w 22 22 ty 5 i Tryd.underlying22 hi hz hs1 hb1 w.heap.size (Nat.le_refl _) (ao := ao) (n := n) (cap := cap) ⟨hrd, .inl h⟩ x 1 [u] hs (.inl (by decide)) hle
    exact ⟨g, cap', w', h1, h2.rd, hrd.below h3 (Nat.le_refl _), h3.mono hB⟩
  rcases hA.2 with h | ⟨g, rfl, ho⟩
  · exact full h
  · by_cases hroom : n + 1 ≤ cap
    · obtain ⟨cur, hg, hcs, htk⟩ := ho.row
      have hr := run_append_room_row (P := Tryd.prog) w 22 22 ty 5 i Tryd.underlying22 hi g n cap cur hg x 1 ([u].map bval) (by rw [hs1]; exact hs) hroom (by rw [hs1, hcs]; simp; omega)
      obtain ⟨g', cap', w', h1, h2, h3, _, _⟩ := run_append_bytes (P := Tryd.prog) w 22 22 ty 5 i Tryd.underlying22 hi hz hs1 hb1 B hB hA x 1 [u] hs (.inl (by decide)) hle
      have e := hr.symm.trans h1
      simp only [Result.ok.injEq, Value.slice.injEq, Option.some.injEq, Addr.mk.injEq, and_true, true_and] at e
      obtain ⟨⟨rfl, rfl⟩, rfl⟩ := e
      refine ⟨g, cap, _, hr, h2.rd, ⟨hrd.len, hrd.le, hrd.max, hrd.nil, fun a ha j v hv => h2.rd.cells a ha j v ?_⟩, h3⟩
      rw [List.getElem?_append_left (List.getElem?_eq_some_iff.1 hv).1]
      exact hv
    · exact full (by have := ho.le; omega)

/-- .. for the walk. -/
theorem wpList_append_one {ops : Array Oper} {rest : List Oper} {o : Oper} {a : Act} {w : World} {Q : Exit → Act → World → Prop} (hgd : o.guard = none) (s x : Operand)
    (ho : o.op = .call { callee := .builtin .append, args := #[s, x], argTypes := #[22, 22] })
    (i : TypeInfo) (hi : Tryd.prog.info? 5 = some i) (hz : i.zero = some (.int .u8 0)) (hs1 : i.size = 1) (hb1 : i.bytes = 1)
    (B : Nat) (hB : B ≤ w.heap.size) {ao : Option Addr} {n cap : Nat} {bs : List UInt8} (hv : a.eval s = .slice ao n cap) (hA : App 5 B w ao n cap bs)
    {xv : Value} (u : UInt8) (hx : a.eval x = xv) (hs : Src Tryd.prog 1 22 xv 1 ([u].map bval) w) (hle : n + 1 ≤ 70368744177664)
    (hK : ∀ g cap' w', Rd w' (some ⟨g, 0, none⟩) (n + 1) cap' (bs ++ [u]) → Rd w' ao n cap bs → Below B w w' → wpList Tryd.prog ops Q rest (a.put o.dst (.slice (some ⟨g, 0, none⟩) (n + 1) cap')) w') : wpList Tryd.prog ops Q (o :: rest) a w := by
  refine wpList_plain hgd fun K hK' => ?_
  obtain ⟨g, cap', w', hrun, h1, h2, h3⟩ := run_append_one w o.type i hi hz hs1 hb1 B hB hA xv u hs hle
  unfold Oper.wp
  simp [execOp, ho, resolve, invoke, builtin, hv, hx, hrun, Result.andThen]
  exact hK' _ _ (hK g cap' w' h1 h2 h3)

set_option maxRecDepth 100000 in
theorem term_own (T : Tr) (hwf : WfT T.pl) (hs : (eT T.pl).length ≤ 90000) (w : World) (ht : Tabs w) (hin : TIn w (· < w.heap.size) T) :
    Calls Tryd.prog 20 #[.slice none 0 0, .agg #[.int .i64 T.k, .int .i64 T.n, .string T.s, .slice T.la T.ls.length T.lc, .slice T.a T.args.length T.c]] w fun x w' => ∃ ao m c, x = .returned (.slice ao m c) ∧ App 5 w.heap.size w' ao m c (eT T.pl) ∧ Below w.heap.size w w' := by
  obtain ⟨w1, hw1, hb1, B1, hs1⟩ := one_newE w [.int .i64 T.k, .int .i64 T.n, .string T.s, .slice T.la T.ls.length T.lc, .slice T.a T.args.length T.c] 33
  have T1 : Tabs w1 := ht.carry (fun i hi => hb1.block i (by have := ht.lt; omega))
  have h2 := ht.lt
  have N1 : TIn w1 (· < w.heap.size + 1) T := TIn.carry (w := w) (S := (· < w.heap.size)) (fun b hb => hb1.block b hb) (fun b hb => by omega) T hin
  have H1 : Hid _ := hw1
  clear hw1 ht hin
  go_enter Tryd.func20, Tryd.ntmps20
  go_wp2_with fail
  rw [H1.out]
  refine (neww_nil w1).mono ?_
  rintro x w2 ⟨g, rfl, G2, hg, hb2⟩
  have B2 := B1.below hb2 B1.lt
  have hW : WS w2 (w.heap.size + 1) g 75 [] none [] := ⟨⟨none, 0, 0, G2, .inl ⟨rfl, rfl, rfl, rfl, rfl⟩⟩, by omega, by simp, .inl rfl⟩
  have T2 : Tabs w2 := T1.carry (fun i hi => hb2.block i (by omega))
  have hA : TCells w2 w.heap.size 0 T := ⟨B2.cell (j := 0) rfl, B2.cell (j := 1) rfl, B2.cell (j := 2) rfl, B2.cell (j := 3) rfl, B2.cell (j := 4) rfl⟩
  have N2 : TIn w2 (· < w.heap.size + 1) T := TIn.carry (w := w1) (S := (· < w.heap.size + 1)) (fun b hb => hb2.block b (by omega)) (fun b hb => hb) T N1
  have cL := wterm_any T w.heap.size 0 w2 (w.heap.size + 1) g none [] hW T2 (by omega) hA (by omega) N2 hwf (by simpa using hs)
  rw [List.nil_append] at cL
  have b2 : Below w.heap.size w w2 := hb1.trans (hb2.mono hb1.size)
  clear hW hA T2 T1 N1 N2 B1 B2 G2 H1 hb1 hs hwf
  go_wp2_with fail
  refine cL.mono ?_
  rintro x w3 ⟨rfl, q', hW3, hk3, _⟩
  obtain ⟨ao, m, c, G3, R3'⟩ := hW3.app
  have R3 : App 5 w.heap.size w3 ao m c (eT T.pl) := ⟨R3'.1, R3'.2.imp id (fun ⟨g, h1, h2⟩ => ⟨g, h1, h2.mono (by omega)⟩)⟩
  have x0 := G3.cell (j := 0) rfl
  have b3 : Below w.heap.size w w3 := b2.trans (hk3.below b2.size (fun j e => e.elim (fun e => by omega) (fun e => by cases e)))
  clear cL G3 hW3 hk3 b2
  go_wp2_with fail
  go_ret
  exact ⟨ao, m, c, rfl, R3, b3⟩
end Go.Proofs.YtkbpmpcbajnmlaaDoor
