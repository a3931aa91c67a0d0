/- The walks of term's mayBeTold and puts. No condition but that the terms lie in memory, have fewer than 2^20 parts and no Levels, and that what comes of it may be told. -/
import Derived.Test.YtbmijpjmdpdfkaaDoorWeigh
import Derived.Test.YtbmijpjmdpdfkaaDoorLf
namespace Go.Proofs.YtbmijpjmdpdfkaaDoor
open Go.RowKit

set_option maxRecDepth 100000 in
set_option maxHeartbeats 400000 in
theorem told_few (n : Nat) (w : World) (hn : n ≤ 33554432) : Calls Tryd.prog 75 #[.agg #[.int .i64 (n : Int), .int .i64 0]] w fun e w' => e = .returned (.bool true) ∧ Below w.heap.size w w' := by
  obtain ⟨w1, hw1, hb1, P1, hs1⟩ := one_new w [.int .i64 (n : Int), .int .i64 0] 60
  have p0 := P1.cell (j := 0) rfl
  have p1 := P1.cell (j := 1) rfl
  have hd : decide ((n : Int) ≤ 33554432) = true := by simp; omega
  go_enter Tryd.func75, Tryd.ntmps75
  go_wp2_with fail
  go_ret
  exact ⟨rfl, hb1⟩

set_option maxRecDepth 100000 in
set_option maxHeartbeats 400000 in
theorem puts_one (bt ot bv ov : Nat) (T V : Tr) (w : World) (B : Nat) (hT : Tabs w) (h3 : 3 ≤ B) (hB : B ≤ w.heap.size) (hc : TCells w bt ot T) (hin : TIn w (· < B) T) (hsz : T.size < 1048576) (hpl : Plainly (Pt.mk bt ot T 1 0).seq)
    (hcv : TCells w bv ov V) (hinv : TIn w (· < B) V) (hszv : V.size = 1) (hplv : Plainly (Pt.mk bv ov V 1 0).seq) (htm : 1 ≤ cntF 0 (Pt.mk bt ot T 1 0).seq) :
    Calls Tryd.prog 42 #[.pointer (some ⟨bt, ot, none⟩), .pointer (some ⟨bv, ov, none⟩)] w fun e w' => e = .returned (.bool true) ∧ Below w.heap.size w w' := by
  have h40 := weigh_plain bt ot T w B hT h3 hB hc hin hsz hpl
  have hlt := hc.lt
  have hlv := hcv.lt
  have hle := cntF_le 0 (Pt.mk bt ot T 1 0).seq
  rw [show ((Pt.mk bt ot T 1 0).seq).length = T.size from Tr.seq_len _ _ _ _ _] at hle
  obtain ⟨S, hS⟩ : ∃ S, T.size = S := ⟨_, rfl⟩
  obtain ⟨k, hk⟩ : ∃ k, cntF 0 (Pt.mk bt ot T 1 0).seq = k := ⟨_, rfl⟩
  have hsz2 := hsz
  rw [hk] at htm hle
  rw [hS] at hle hsz h40
  have hk0 : decide ((k : Int) = 0) = false := by simp; omega
  have hk1 : ¬ ((k : Int) = 0) := by omega
  go_enter Tryd.func42, Tryd.ntmps42
  go_wp2_with fail
  refine h40.mono ?_
  rintro e w1 ⟨rfl, hb1⟩
  obtain ⟨w2, hw2, hb2, A2, hs2⟩ := one_new w1 [.int .i64 (S : Int), .int .i64 0] 60
  have hb12 := hb1.trans (hb2.mono hb1.size)
  have hz2 := hb12.size
  have h55 := count_any bt ot T 0 w2 B (hT.on hb12) h3 (by omega) (hc.on hb12) (hin.below hb12 hB) hsz2
  rw [hk] at h55
  have HW2 : Hid (w1.alloc (.cells #[.int .i64 (S : Int), .int .i64 0] 60) = w2) := hw2
  clear h40 hw2
  go_wp2_with fail
  rw [HW2.out]
  refine h55.mono ?_
  rintro e w3 ⟨rfl, hb3⟩
  have hb13 := hb12.trans (hb3.mono hb12.size)
  have hz3 := hb13.size
  have h40v := weigh_plain bv ov V w3 B (hT.on hb13) h3 (by omega) (hcv.on hb13) (hinv.below hb13 hB) (by omega) hplv
  rw [hszv] at h40v
  have A3 := A2.below hb3 A2.lt
  clear h55
  go_wp2_with fail
  refine h40v.mono ?_
  rintro e w4 ⟨rfl, hb4⟩
  have A4 := A3.below hb4 A3.lt
  obtain ⟨w5, hw5, hb5, C5, hs5⟩ := one_new w4 [.int .i64 1, .int .i64 0] 60
  have A5 := A4.below hb5 A4.lt
  have n1 : w1.heap.size ≠ w4.heap.size := by have := A4.lt; omega
  have n2 : w4.heap.size ≠ w1.heap.size := by omega
  have HW5 : Hid (w4.alloc (.cells #[.int .i64 1, .int .i64 0] 60) = w5) := hw5
  have a0 : (w4.alloc (.cells #[.int .i64 1, .int .i64 0] 60)).cell? ⟨w1.heap.size, 0, none⟩ = some (.int .i64 (S : Int)) := by rw [HW5.out]; exact A5.cell (j := 0) rfl
  have a1 : (w4.alloc (.cells #[.int .i64 1, .int .i64 0] 60)).cell? ⟨w1.heap.size, 1, none⟩ = some (.int .i64 0) := by rw [HW5.out]; exact A5.cell (j := 1) rfl
  have f0 : (w4.alloc (.cells #[.int .i64 1, .int .i64 0] 60)).frozen? ⟨w1.heap.size, 0, none⟩ = false := by rw [HW5.out]; exact A5.frozen 0
  have f1 : (w4.alloc (.cells #[.int .i64 1, .int .i64 0] 60)).frozen? ⟨w1.heap.size, 1, none⟩ = false := by rw [HW5.out]; exact A5.frozen 1
  clear h40v hw5
  go_wp2_with fail
  refine (told_few S _ (by omega)).mono ?_
  rintro e w6 ⟨rfl, hb6⟩
  have hz1 := hb1.size
  have hb14 : Below w.heap.size w w4 := hb13.trans (hb4.mono hb13.size)
  have hb15 : Below w.heap.size w (((w4.alloc (.cells #[.int .i64 1, .int .i64 0] 60)).setCell ⟨w1.heap.size, 0, none⟩ (.int .i64 (S : Int))).setCell ⟨w1.heap.size, 1, none⟩ (.int .i64 0)) := ((hb14.alloc hb14.size _).setCell (p := ⟨w1.heap.size, 0, none⟩) hz1 _).setCell (p := ⟨w1.heap.size, 1, none⟩) hz1 _
  go_wp2_with fail
  go_ret
  exact ⟨rfl, hb15.trans (hb6.mono hb15.size)⟩
end Go.Proofs.YtbmijpjmdpdfkaaDoor

/- A turn's step at a Var that a put turns, as a contract of doVar; and the walk of term's Put of a small term. No condition but that the terms lie in memory, are as their Kinds ask, have no Levels and small numbers. -/
namespace Go.Proofs.YtbmijpjmdpdfkaaDoor
open Go.RowKit

/-- What a put makes of a Var. -/
def PutV (bv ov : Nat) (V : Tr) (p : Pt) (T' : Tr) : Prop := (p.freeB = true ∧ p.freeN = 0 ∧ LiftI (p.m : Int) 0 ⟨bv, ov, V, 1, 0⟩ T') ∨ (¬ (p.freeB = true ∧ p.freeN = 0) ∧ IsVar (pvn p) T')

theorem do77_put {G : World → Prop} {w0 : World} {B gu fa rb M M0 : Nat} (bv ov : Nat) (V : Tr) (hM0 : M0 ≤ 1073741824) (hT : Tabs w0) (h3 : 3 ≤ B) (hcv : TCells w0 bv ov V) (hbv : bv < B) (hinv : TIn w0 (· < B) V) (hbare : Bare V) (hsz : V.size ≤ 1000) :
    DoOk (FitB M0) G (Img (PutV bv ov V) NoLv) w0 B gu fa rb M (.func (.func 43) #[.agg #[.pointer (some ⟨bv, ov, none⟩)]] #[]) 77 (fun k => k = 0) := by
  intro wr js v p tb toff hk h hrb hs _
  have J := h.jobs _ (List.mem_cons_self ..)
  have hlt : p.b < B := J.lt
  have hng : tb ≠ gu := fun e => J.nx (by show XB wr tb; rw [e]; exact xb_gu h.row.blk)
  have hc : TCells wr p.b p.off p.t := J.cells.carry (h.low.block _ hlt)
  have f1 := (fitB_all hM0 p J.fit).2.1
  obtain ⟨f2, f3⟩ : p.t.n ≤ 1073741824 ∧ -1073741824 ≤ p.t.n := by
    obtain ⟨h, _, _⟩ := J.fit
    cases h with | mk _ _ _ h4 h5 _ _ _ _ => exact ⟨h5, h4⟩
  have hbd : -1073741825 ≤ pvn p ∧ pvn p ≤ 1073741824 := by unfold pvn; split <;> omega
  refine (doVar43_any (fun w' w'' k n s la ll lc a al ac => ∃ T' : Tr, T'.k = k ∧ T'.n = n ∧ T'.s = s ∧ T'.la = la ∧ T'.ls.length = ll ∧ T'.lc = lc ∧ T'.a = a ∧ T'.args.length = al ∧ T'.c = ac ∧ PutV bv ov V p T' ∧ TIn w'' (fun j => w'.heap.size ≤ j ∧ j < w''.heap.size ∧ ¬ XB w'' j) T') _ gu _ v p tb toff wr h.row.blk J.hole hng (fun w' hb => ?_)).mono ?_
  · by_cases hz : p.freeB = true ∧ p.freeN = 0
    · refine (pvar_zero (fun w' w'' k n s la ll lc a al ac => ∃ T' : Tr, T'.k = k ∧ T'.n = n ∧ T'.s = s ∧ T'.la = la ∧ T'.ls.length = ll ∧ T'.lc = lc ∧ T'.a = a ∧ T'.args.length = al ∧ T'.c = ac ∧ PutV bv ov V p T' ∧ TIn w'' (fun j => w'.heap.size ≤ j ∧ j < w''.heap.size ∧ ¬ XB w'' j) T') (some ⟨bv, ov, none⟩) p w' (hc.on hb) f1 f2 hz.1 hz.2 (fun w1 hb1 => ?_)).mono ?_
      · have hbb : Below B w0 w1 := h.low.trans ((hb.mono hs).trans (hb1.mono (Nat.le_trans hs hb.size)))
        have hs1 : B ≤ w1.heap.size := Nat.le_trans hs (Nat.le_trans hb.size hb1.size)
        refine (lifted_bare bv ov V (p.m : Int) 0 w1 (hT.below hbb h3) (by omega) (hcv.carry (hbb.block _ hbv)) ((hinv.below hbb (Nat.le_refl _)).mono (fun k hk => by omega)) hbare hsz (by omega) (by omega)).mono ?_
        rintro e w2 ⟨T', hi, rfl, ht, hb2⟩
        exact ⟨_, _, _, _, _, _, _, _, _, rfl, ⟨T', rfl, rfl, rfl, rfl, rfl, rfl, rfl, rfl, rfl, .inl ⟨hz.1, hz.2, hi⟩, ht⟩, hb2⟩
      · rintro e w5 ⟨k, n, s, la, ll, lc, a, al, ac, w1, w2, rfl, hb1, ⟨T', h1, h2, h4, h5, h6, h7, h8, h9, h10, hP, ht⟩, hb2, hK⟩
        refine ⟨_, _, _, _, _, _, _, _, _, rfl, ⟨T', h1, h2, h4, h5, h6, h7, h8, h9, h10, hP, TIn.carry (fun j hj => hK.block j hj.2.1 (fun e => by omega)) (fun j hj => ⟨Nat.le_trans hb1.size hj.1, Nat.lt_of_lt_of_le hj.2.1 hK.size, fun hx => hj.2.2 ((XB.carry (hK.block j hj.2.1 (fun e => by omega))).1 hx)⟩) T' ht⟩, ?_⟩
        exact (hb1.trans (hb2.mono hb1.size)).trans (hK.below (Nat.le_trans hb1.size hb2.size) (fun k e => e.1))
    · refine (pvar_other (some ⟨bv, ov, none⟩) p w' (hc.on hb) f1 f2 f3 hz).mono ?_
      rintro e w'' ⟨rfl, hb2⟩
      exact ⟨_, _, _, _, _, _, _, _, _, rfl, ⟨varT (pvn p), rfl, rfl, rfl, rfl, rfl, rfl, rfl, rfl, rfl, .inr ⟨hz, varT_is _⟩, varT_in _ (by omega) (by omega) _ _⟩, hb2⟩
  · rintro e w' ⟨rfl, w1, w2, k, n, s, la, ll, lc, a, al, ac, hb1, ⟨T', rfl, rfl, rfl, rfl, rfl, rfl, rfl, rfl, rfl, hP, ht⟩, hb2, hw'⟩
    have hb := hb1.trans (hb2.mono hb1.size)
    refine ⟨rfl, js, v, h.leafed (T := T') hb1 hb2 ht (.var hk hP) hs hw', fun hx => ?_, ?_, ?_⟩
    · rw [hw', xb_put5] at hx
      exact hrb ((XB.carry (hb.block rb h.root.lt)).1 hx)
    · rw [hw']; simp [put5, World.setCell]; exact hb.size
    · have := p.t.size_pos
      simp only [mass]; omega
end Go.Proofs.YtbmijpjmdpdfkaaDoor

/- The walk of term's Put of a term of one part into a small one. No condition but that the terms lie in memory, are as their Kinds ask, have no Levels and small numbers, and that there is a free Var 0. -/
namespace Go.Proofs.YtbmijpjmdpdfkaaDoor
open Go.RowKit

set_option maxRecDepth 100000 in
set_option maxHeartbeats 400000 in
theorem put_one (T V : Tr) (w : World) (hT : Tabs w) (h3 : 3 ≤ w.heap.size) (hin : TIn w (· < w.heap.size) T) (hbare : Bare T) (hsz : T.size ≤ 1000) (hpl : ∀ g, Plainly (Pt.mk g 0 T 1 0).seq)
    (hinv : TIn w (· < w.heap.size) V) (hbv : Bare V) (hszv : V.size = 1) (hplv : ∀ g, Plainly (Pt.mk g 0 V 1 0).seq) (htm : ∀ g, 1 ≤ cntF 0 (Pt.mk g 0 T 1 0).seq) :
    Calls Tryd.prog 19 #[T.val, V.val] w fun e w' => ∃ T', Img (PutV (w.heap.size + 1) 0 V) NoLv ⟨w.heap.size, 0, T, 1, 0⟩ T' ∧ e = .returned T'.val ∧ TIn w' (fun k => w.heap.size ≤ k ∧ k < w'.heap.size ∧ ¬ XB w' k) T' ∧ Below w.heap.size w w' := by
  unfold Tr.val
  obtain ⟨w3, hw3, hb3, A3, V3, R3, hs3⟩ := three_new w ([.int .i64 T.k, .int .i64 T.n, .string T.s, .slice T.la T.ls.length T.lc, .slice T.a T.args.length T.c] : List Value) ([.int .i64 V.k, .int .i64 V.n, .string V.s, .slice V.la V.ls.length V.lc, .slice V.a V.args.length V.c] : List Value) ([.int .i64 0, .int .i64 0, .string { data := #[] }, .slice none 0 0, .slice none 0 0] : List Value) 25 25 25
  have cT : TCells w3 w.heap.size 0 T := tcells_box A3
  have cV : TCells w3 (w.heap.size + 1) 0 V := tcells_box V3
  have T3 := hT.on hb3
  have h42 := puts_one w.heap.size 0 (w.heap.size + 1) 0 T V w3 w.heap.size T3 h3 (by omega) cT (hin.below hb3 (Nat.le_refl _)) (by omega) (hpl _) cV (hinv.below hb3 (Nat.le_refl _)) hszv (hplv _) (htm _)
  have hrs : ∀ (w : World) (a : Addr) (f : Nat) (x : Array Value), (store a (Value.func (Fn.func f) x #[])).run Tryd.prog w = _ := fun w a f x => run_store Tryd.prog w a (.func (.func f) x #[]) .plain rfl
  go_enter Tryd.func19, Tryd.ntmps19
  go_wp2_with (go_at_call 42; refine h42.mono ?_; rintro e w4 ⟨rfl, hb4⟩)
  clear h42
  obtain ⟨w5, hw5, hb5, U5, hs5⟩ := one_new w4 [.func (.func 43) #[.agg #[.pointer (some ⟨w.heap.size + 1, 0, none⟩)]] #[], .func (.func 44) #[] #[], .slice none 0 0] 71
  have hz4 := hb4.size
  have hb34 := hb3.trans (hb4.mono hb3.size)
  have hb35 := hb34.trans (hb5.mono hb34.size)
  have hz5 := hb35.size
  have c5 := (cT.on hb4).on hb5
  have v5 := (cV.on hb4).on hb5
  have T5 := hT.on hb35
  have hcall := of_any (Fit := FitB 1000000) (RV := PutV (w.heap.size + 1) 0 V) (RL := NoLv) w4.heap.size w4.heap.size 1000000 _ w.heap.size 0 T w5 U5 (Nat.le_refl _) (by omega) c5 ((hin.below hb35 (Nat.le_refl _)).mono (fun k hk => by omega)) (by omega) ⟨hbare, by show 1 + T.size ≤ 1000000; omega, by show 0 + T.size ≤ 1000000; omega⟩
    (fun p h => by obtain ⟨h, _, _⟩ := h; cases h with | mk h1 h2 _ _ _ _ _ _ _ => exact ⟨h1, h2⟩) (by omega)
    (do77_put (w.heap.size + 1) 0 V (by omega) T5 (by omega) v5 (by omega) ((hinv.below hb35 (Nat.le_refl _)).mono (fun k hk => by omega)) hbv (by omega))
    (do78 (fun p w' h1 h2 => cop_bare p w' h1 h2)) (do79 (by omega) T5 (Nat.le_refl _) (by omega) (fun p h => fitB_all (by omega) p h) (fun p w' h1 h2 => cop_bare p w' h1 h2))
  have HW5 : Hid (w4.alloc (.cells #[.func (.func 43) #[.agg #[.pointer (some ⟨w.heap.size + 1, 0, none⟩)]] #[], .func (.func 44) #[] #[], .slice none 0 0] 71) = w5) := hw5
  clear hw5
  go_wp2_with fail
  rw [HW5.out]
  refine hcall.mono ?_
  rintro e w6 ⟨T', hi, rfl, ht, hb6⟩
  have R6 := ((R3.below hb4 R3.lt).below hb5 (R3.below hb4 R3.lt).lt).below hb6 (by have := R3.lt; omega)
  have x0 := R6.cell (j := 0) rfl
  have x1 := R6.cell (j := 1) rfl
  have x2 := R6.cell (j := 2) rfl
  have x3 := R6.cell (j := 3) rfl
  have x4 := R6.cell (j := 4) rfl
  have f0 := R6.frozen 0
  have f1 := R6.frozen 1
  have f2 := R6.frozen 2
  have f3 := R6.frozen 3
  have f4 := R6.frozen 4
  clear hcall
  go_wp2_with fail
  obtain ⟨Q, K⟩ := st5 R6 (.int .i64 T'.k) (.int .i64 T'.n) (.string T'.s) (.slice T'.la T'.ls.length T'.lc) (.slice T'.a T'.args.length T'.c)
  have s0 := Q.cell (j := 0) rfl
  have s1 := Q.cell (j := 1) rfl
  have s2 := Q.cell (j := 2) rfl
  have s3 := Q.cell (j := 3) rfl
  have s4 := Q.cell (j := 4) rfl
  have hz6 := hb6.size
  have hkb := K.below (B := w.heap.size) (by omega) (fun k e => by omega)
  exact bodyPost_ret (v := (Value.agg #[.int .i64 T'.k, .int .i64 T'.n, .string T'.s, .slice T'.la T'.ls.length T'.lc, .slice T'.a T'.args.length T'.c])) (by simp [results, Tryd.results19, go_sem, s0, s1, s2, s3, s4]) rfl ⟨T', hi, rfl, TIn.carry (fun k hk => K.block k hk.2.1 (fun e => by omega)) (fun k hk => ⟨by omega, Nat.lt_of_lt_of_le hk.2.1 K.size, fun hx => hk.2.2 ((XB.carry (K.block k hk.2.1 (fun e => by omega))).1 hx)⟩) T' ht, hb35.trans ((hb6.mono (by omega)).trans hkb)⟩
end Go.Proofs.YtbmijpjmdpdfkaaDoor
