/- The walk of term's Put of a term of one part into a small one. No condition but that the terms lie in memory, are as their Kinds ask, have no Levels and small numbers, and that there is a free Var 0. -/
import Derived.Test.YtbmijpjmdpdfkaaDoorPut
namespace Go.Proofs.YtbmijpjmdpdfkaaDoor
open Go.RowKit

set_option maxRecDepth 100000 in
set_option maxHeartbeats 400000 in
theorem put_one (T V : Tr) (w : World) (hT : Tabs w) (h3 : 3 ≤ w.heap.size) (hin : TIn w (· < w.heap.size) T) (hbare : Bare T) (hsz : T.size ≤ 1000) (hpl : ∀ g, Plainly (Pt.mk g 0 T 1 0).seq)
    (hinv : TIn w (· < w.heap.size) V) (hbv : Bare V) (hszv : V.size = 1) (hplv : ∀ g, Plainly (Pt.mk g 0 V 1 0).seq) (htm : ∀ g, 1 ≤ cntF 0 (Pt.mk g 0 T 1 0).seq) :
    Calls Tryd.prog 19 #[T.val, V.val] w fun e w' => ∃ T', Img (PutV (w.heap.size + 1) 0 V) NoLv ⟨w.heap.size, 0, T, 1, 0⟩ T' ∧ e = .returned T'.val ∧ TIn w' (fun k => w.heap.size ≤ k ∧ k < w'.heap.size ∧ ¬ XB w' k) T' ∧ Below w.heap.size w w' := by
  unfold Tr.val
  obtain ⟨w3, hw3, hb3, A3, V3, R3, hs3⟩ := three_new w ([.int .i64 T.k, .int .i64 T.n, .string T.s, .slice T.la T.ls.length T.lc, .slice T.a T.args.length T.c] : List Value) ([.int .i64 V.k, .int .i64 V.n, .string V.s, .slice V.la V.ls.length V.lc, .slice V.a V.args.length V.c] : List Value) ([.int .i64 0, .int .i64 0, .string { data := #[] }, .slice none 0 0, .slice none 0 0] : List Value) 25 25 25
  have cT : TCells w3 w.heap.size 0 T := tcells_box A3
  have cV : TCells w3 (w.heap.size + 1) 0 V := tcells_box V3
  have T3 := hT.on hb3
  have h42 := puts_one w.heap.size 0 (w.heap.size + 1) 0 T V w3 w.heap.size T3 h3 (by omega) cT (hin.below hb3 (Nat.le_refl _)) (by omega) (hpl _) cV (hinv.below hb3 (Nat.le_refl _)) hszv (hplv _) (htm _)
  have hrs : ∀ (w : World) (a : Addr) (f : Nat) (x : Array Value), (store a (Value.func (Fn.func f) x #[])).run Tryd.prog w = _ := fun w a f x => run_store Tryd.prog w a (.func (.func f) x #[]) .plain rfl
  go_enter Tryd.func19, Tryd.ntmps19
  go_wp2_with (go_at_call 42; refine h42.mono ?_; rintro e w4 ⟨rfl, hb4⟩)
  clear h42
  obtain ⟨w5, hw5, hb5, U5, hs5⟩ := one_new w4 [.func (.func 43) #[.agg #[.pointer (some ⟨w.heap.size + 1, 0, none⟩)]] #[], .func (.func 44) #[] #[], .slice none 0 0] 71
  have hz4 := hb4.size
  have hb34 := hb3.trans (hb4.mono hb3.size)
  have hb35 := hb34.trans (hb5.mono hb34.size)
  have hz5 := hb35.size
  have c5 := (cT.on hb4).on hb5
  have v5 := (cV.on hb4).on hb5
  have T5 := hT.on hb35
  have hcall := of_any (Fit := FitB 1000000) (RV := PutV (w.heap.size + 1) 0 V) (RL := NoLv) w4.heap.size w4.heap.size 1000000 _ w.heap.size 0 T w5 U5 (Nat.le_refl _) (by omega) c5 ((hin.below hb35 (Nat.le_refl _)).mono (fun k hk => by omega)) (by omega) ⟨hbare, by show 1 + T.size ≤ 1000000; omega, by show 0 + T.size ≤ 1000000; omega⟩
    (fun p h => by obtain ⟨h, _, _⟩ := h; cases h with | mk h1 h2 _ _ _ _ _ _ _ => exact ⟨h1, h2⟩) (by omega)
    (do77_put (w.heap.size + 1) 0 V (by omega) T5 (by omega) v5 (by omega) ((hinv.below hb35 (Nat.le_refl _)).mono (fun k hk => by omega)) hbv (by omega))
    (do78 (fun p w' h1 h2 => cop_bare p w' h1 h2)) (do79 (by omega) T5 (Nat.le_refl _) (by omega) (fun p h => fitB_all (by omega) p h) (fun p w' h1 h2 => cop_bare p w' h1 h2))
  have HW5 : Hid (w4.alloc (.cells #[.func (.func 43) #[.agg #[.pointer (some ⟨w.heap.size + 1, 0, none⟩)]] #[], .func (.func 44) #[] #[], .slice none 0 0] 71) = w5) := hw5
  clear hw5
  go_wp2_with fail
  rw [HW5.out]
  refine hcall.mono ?_
  rintro e w6 ⟨T', hi, rfl, ht, hb6⟩
  have R6 := ((R3.below hb4 R3.lt).below hb5 (R3.below hb4 R3.lt).lt).below hb6 (by have := R3.lt; omega)
  have x0 := R6.cell (j := 0) rfl
  have x1 := R6.cell (j := 1) rfl
  have x2 := R6.cell (j := 2) rfl
  have x3 := R6.cell (j := 3) rfl
  have x4 := R6.cell (j := 4) rfl
  have f0 := R6.frozen 0
  have f1 := R6.frozen 1
  have f2 := R6.frozen 2
  have f3 := R6.frozen 3
  have f4 := R6.frozen 4
  clear hcall
  go_wp2_with fail
  obtain ⟨Q, K⟩ := st5 R6 (.int .i64 T'.k) (.int .i64 T'.n) (.string T'.s) (.slice T'.la T'.ls.length T'.lc) (.slice T'.a T'.args.length T'.c)
  have s0 := Q.cell (j := 0) rfl
  have s1 := Q.cell (j := 1) rfl
  have s2 := Q.cell (j := 2) rfl
  have s3 := Q.cell (j := 3) rfl
  have s4 := Q.cell (j := 4) rfl
  have hz6 := hb6.size
  have hkb := K.below (B := w.heap.size) (by omega) (fun k e => by omega)
  exact bodyPost_ret (v := (Value.agg #[.int .i64 T'.k, .int .i64 T'.n, .string T'.s, .slice T'.la T'.ls.length T'.lc, .slice T'.a T'.args.length T'.c])) (by simp [results, Tryd.results19, go_sem, s0, s1, s2, s3, s4]) rfl ⟨T', hi, rfl, TIn.carry (fun k hk => K.block k hk.2.1 (fun e => by omega)) (fun k hk => ⟨by omega, Nat.lt_of_lt_of_le hk.2.1 K.size, fun hx => hk.2.2 ((XB.carry (K.block k hk.2.1 (fun e => by omega))).1 hx)⟩) T' ht, hb35.trans ((hb6.mono (by omega)).trans hkb)⟩
end Go.Proofs.YtbmijpjmdpdfkaaDoor
