/- The walks of term's Lift, and of its Put where there is no place for what is put in. No condition but that the term lies in memory, is formed, has at most 1000 parts, few Levels and small numbers. -/
import Derived.Test.YtbmijpjmdpdfkaaDoorPl2
import Derived.Test.YtbmijpjmdpdfkaaDoorPut2
namespace Go.Proofs.YtbmijpjmdpdfkaaDoor
open Go.RowKit

set_option maxRecDepth 100000 in
set_option maxHeartbeats 400000 in
theorem lift_ok (T : Tr) (by_ from_ : Int) (w : World) (hT : Tabs w) (h3 : 3 ≤ w.heap.size) (hin : TIn w (· < w.heap.size) T) {N : Int} (ho : OkT N T) (hN : N ≤ 1073741824) (hlv : T.lv ≤ 262144) (hsz : T.size ≤ 1000) (hb0 : 0 ≤ by_) (hb1 : by_ ≤ 1073741824) (hf0 : 0 ≤ from_) (hf1 : from_ ≤ 1073741824) :
    Calls Tryd.prog 18 #[T.val, .int .i64 by_, .int .i64 from_] w fun e w' => ∃ b T', LiftG by_ from_ ⟨b, 0, T, 1, 0⟩ T' ∧ e = .returned T'.val ∧ TIn w' (fun k => k < w'.heap.size) T' ∧ Below w.heap.size w w' := by
  unfold Tr.val
  obtain ⟨w2, hw2, hb2, A2, R2, hs2⟩ := two_new w ([.int .i64 T.k, .int .i64 T.n, .string T.s, .slice T.la T.ls.length T.lc, .slice T.a T.args.length T.c] : List Value) ([.int .i64 0, .int .i64 0, .string { data := #[] }, .slice none 0 0, .slice none 0 0] : List Value) 25 25
  have cT : TCells w2 w.heap.size 0 T := tcells_box A2
  have h40 := weigh_few w.heap.size 0 T w2 w.heap.size (hT.on hb2) h3 (by omega) cT (hin.below hb2 (Nat.le_refl _)) (by omega) (OkT.formed T _ _ _ _ ho) (by rw [show (Pt.mk w.heap.size 0 T 1 0).seq = T.seq w.heap.size 0 1 0 from rfl, lvs_seq]; exact hlv)
  generalize (lvs (Pt.mk w.heap.size 0 T 1 0).seq : Int) = lv at h40
  have m1 : min (max by_ 0) 1073741824 = by_ := by omega
  have m2 : min (max from_ 0) 1073741824 = from_ := by omega
  go_enter Tryd.func18, Tryd.ntmps18
  go_wp2_with (go_at_call 40; refine h40.mono ?_; rintro e w4 ⟨rfl, hb4⟩)
  obtain ⟨w5, hw5, hb5, U5, hs5⟩ := one_new w4 [.int .i64 (T.size : Int), .int .i64 lv] 60
  have hz4 := hb4.size
  have hb24 := hb2.trans (hb4.mono hb2.size)
  have hb25 := hb24.trans (hb5.mono hb24.size)
  have hz5 := hb25.size
  have c5 := (cT.on hb4).on hb5
  have h41 := lifted_good w.heap.size 0 T by_ from_ w5 (hT.on hb25) (by omega) c5 ((hin.below hb25 (Nat.le_refl _)).mono (fun k (hk : k < w.heap.size) => show k < w5.heap.size by omega)) (OkT.good hN T ho hlv) hsz hb0 hb1
  have HW5 : Hid (w4.alloc (.cells #[.int .i64 (T.size : Int), .int .i64 lv] 60) = w5) := hw5
  clear hw5 h40
  go_wp2_with fail
  rw [HW5.out]
  refine h41.mono ?_
  rintro e w6 ⟨T', hi, rfl, ht, hb6⟩
  have R6 := ((R2.below hb4 R2.lt).below hb5 (R2.below hb4 R2.lt).lt).below hb6 (by have := R2.lt; omega)
  have x0 := R6.cell (j := 0) rfl
  have x1 := R6.cell (j := 1) rfl
  have x2 := R6.cell (j := 2) rfl
  have x3 := R6.cell (j := 3) rfl
  have x4 := R6.cell (j := 4) rfl
  have f0 := R6.frozen 0
  have f1 := R6.frozen 1
  have f2 := R6.frozen 2
  have f3 := R6.frozen 3
  have f4 := R6.frozen 4
  clear h41
  go_wp2_with fail
  obtain ⟨Q, K⟩ := st5 R6 (.int .i64 T'.k) (.int .i64 T'.n) (.string T'.s) (.slice T'.la T'.ls.length T'.lc) (.slice T'.a T'.args.length T'.c)
  have s0 := Q.cell (j := 0) rfl
  have s1 := Q.cell (j := 1) rfl
  have s2 := Q.cell (j := 2) rfl
  have s3 := Q.cell (j := 3) rfl
  have s4 := Q.cell (j := 4) rfl
  have hz6 := hb6.size
  have hkb := K.below (B := w.heap.size) (by omega) (fun k e => by omega)
  exact bodyPost_ret (v := (Value.agg #[.int .i64 T'.k, .int .i64 T'.n, .string T'.s, .slice T'.la T'.ls.length T'.lc, .slice T'.a T'.args.length T'.c])) (by simp [results, Tryd.results18, go_sem, s0, s1, s2, s3, s4]) rfl ⟨_, T', hi, rfl, TIn.carry (fun k hk => K.block k hk.2.1 (fun e => by omega)) (fun k hk => Nat.lt_of_lt_of_le hk.2.1 K.size) T' ht, hb25.trans ((hb6.mono (by omega)).trans hkb)⟩

set_option maxRecDepth 100000 in
set_option maxHeartbeats 400000 in
theorem puts_none (bt ot : Nat) (pv : Value) (T : Tr) (w : World) (B : Nat) (hT : Tabs w) (h3 : 3 ≤ B) (hB : B ≤ w.heap.size) (hc : TCells w bt ot T) (hin : TIn w (· < B) T) (hsz : T.size < 1048576) (hpl : Formed (Pt.mk bt ot T 1 0).seq) (hlv : lvs (Pt.mk bt ot T 1 0).seq ≤ 262144) (htm : cntF 0 (Pt.mk bt ot T 1 0).seq = 0) :
    Calls Tryd.prog 42 #[.pointer (some ⟨bt, ot, none⟩), pv] w fun e w' => e = .returned (.bool true) ∧ Below w.heap.size w w' := by
  have h40 := weigh_few bt ot T w B hT h3 hB hc hin hsz hpl hlv
  generalize (lvs (Pt.mk bt ot T 1 0).seq : Int) = lv at h40
  have hlt := hc.lt
  go_enter Tryd.func42, Tryd.ntmps42
  go_wp2_with fail
  refine h40.mono ?_
  rintro e w1 ⟨rfl, hb1⟩
  obtain ⟨w2, hw2, hb2, A2, hs2⟩ := one_new w1 [.int .i64 (T.size : Int), .int .i64 lv] 60
  have hb12 := hb1.trans (hb2.mono hb1.size)
  have hz2 := hb12.size
  have h55 := count_any bt ot T 0 w2 B (hT.on hb12) h3 (by omega) (hc.on hb12) (hin.below hb12 hB) hsz
  rw [htm] at h55
  have HW2 : Hid (w1.alloc (.cells #[.int .i64 (T.size : Int), .int .i64 lv] 60) = w2) := hw2
  clear h40 hw2
  go_wp2_with fail
  rw [HW2.out]
  refine h55.mono ?_
  rintro e w3 ⟨rfl, hb3⟩
  go_wp2_with fail
  go_ret
  exact ⟨rfl, hb12.trans (hb3.mono hb12.size)⟩

/-- A part in which the free Var 0 does not stand. -/
def FitN (M : Nat) (p : Pt) : Prop := FitG M p ∧ cntF 0 p.seq = 0
theorem fitN_all {M : Nat} (hM : M ≤ 1073741824) (p : Pt) (h : FitN M p) : p.d ≤ 1073741824 ∧ p.m ≤ 1073741824 ∧ (3 ≤ p.t.k → 0 < p.t.args.length ∧ p.t.args.length ≤ 1000) ∧ ∀ i T, p.t.args[i]? = some T → FitN M (p.kid i T) := by
  obtain ⟨h1, h2, h3, h4⟩ := fitG_all hM p h.1
  exact ⟨h1, h2, h3, fun i T hi => ⟨h4 i T hi, (cnt_zero_kid h.2).2 i T hi⟩⟩

theorem do77_none {G : World → Prop} {w0 : World} {B gu fa rb M M0 : Nat} (gv : Option Addr) (hM0 : M0 ≤ 1073741824) :
    DoOk (FitN M0) G (Img (fun p T' => IsVar (pvn p) T') SameLv) w0 B gu fa rb M (.func (.func 43) #[.agg #[.pointer gv]] #[]) 77 (fun k => k = 0) := by
  intro wr js v p tb toff hk h hrb hs _
  have J := h.jobs _ (List.mem_cons_self ..)
  have hlt : p.b < B := J.lt
  have hng : tb ≠ gu := fun e => J.nx (by show XB wr tb; rw [e]; exact xb_gu h.row.blk)
  have hc : TCells wr p.b p.off p.t := J.cells.carry (h.low.block _ hlt)
  have f1 := (fitN_all hM0 p J.fit).2.1
  obtain ⟨f2, f3⟩ : p.t.n ≤ 1073741824 ∧ -1073741824 ≤ p.t.n := J.fit.1.1.num
  have hz : ¬ (p.freeB = true ∧ p.freeN = 0) := fun hz => by
    have := (cnt_zero_kid J.fit.2).1
    unfold Pt.isB at this
    rw [hz.1, hz.2] at this
    simp at this
  have hbd : -1073741825 ≤ pvn p ∧ pvn p ≤ 1073741824 := by unfold pvn; split <;> omega
  refine (doVar43_any (fun _ _ k n s la ll lc a al ac => k = 0 ∧ n = pvn p ∧ s = { data := #[] } ∧ la = none ∧ ll = 0 ∧ lc = 0 ∧ a = none ∧ al = 0 ∧ ac = 0) _ gu _ v p tb toff wr h.row.blk J.hole hng (fun w' hb => (pvar_other gv p w' (hc.on hb) f1 f2 f3 hz).mono ?_)).mono ?_
  · rintro e w'' ⟨rfl, hb⟩
    exact ⟨0, pvn p, { data := #[] }, none, 0, 0, none, 0, 0, rfl, ⟨rfl, rfl, rfl, rfl, rfl, rfl, rfl, rfl, rfl⟩, hb⟩
  · rintro e w' ⟨rfl, w1, w2, k, n, s, la, ll, lc, a, al, ac, hb1, ⟨rfl, rfl, rfl, rfl, rfl, rfl, rfl, rfl, rfl⟩, hb2, hw'⟩
    have hb := hb1.trans (hb2.mono hb1.size)
    refine ⟨rfl, js, v, h.leafed (T := varT (pvn p)) hb1 hb2 (varT_in _ (by omega) (by omega) _ _) (.var hk (varT_is _)) hs hw', fun hx => ?_, ?_, ?_⟩
    · rw [hw', xb_put5] at hx
      exact hrb ((XB.carry (hb.block rb h.root.lt)).1 hx)
    · rw [hw']; simp [put5, World.setCell]; exact hb.size
    · have := p.t.size_pos
      simp only [mass]; omega

set_option maxRecDepth 100000 in
set_option maxHeartbeats 400000 in
theorem put_none (T V : Tr) (w : World) (hT : Tabs w) (h3 : 3 ≤ w.heap.size) (hin : TIn w (· < w.heap.size) T) {N : Int} (ho : OkT N T) (hN : N ≤ 1073741824) (hlv : T.lv ≤ 262144) (hsz : T.size ≤ 1000) (htm : ∀ g, cntF 0 (Pt.mk g 0 T 1 0).seq = 0) :
    Calls Tryd.prog 19 #[T.val, V.val] w fun e w' => ∃ b T', PutG ⟨b, 0, T, 1, 0⟩ T' ∧ e = .returned T'.val ∧ TIn w' (fun k => k < w'.heap.size) T' ∧ Below w.heap.size w w' := by
  unfold Tr.val
  obtain ⟨w3, hw3, hb3, A3, V3, R3, hs3⟩ := three_new w ([.int .i64 T.k, .int .i64 T.n, .string T.s, .slice T.la T.ls.length T.lc, .slice T.a T.args.length T.c] : List Value) ([.int .i64 V.k, .int .i64 V.n, .string V.s, .slice V.la V.ls.length V.lc, .slice V.a V.args.length V.c] : List Value) ([.int .i64 0, .int .i64 0, .string { data := #[] }, .slice none 0 0, .slice none 0 0] : List Value) 25 25 25
  have cT : TCells w3 w.heap.size 0 T := tcells_box A3
  have T3 := hT.on hb3
  have h42 := puts_none w.heap.size 0 (.pointer (some ⟨w.heap.size + 1, 0, none⟩)) T w3 w.heap.size T3 h3 (by omega) cT (hin.below hb3 (Nat.le_refl _)) (by omega) (OkT.formed T _ _ _ _ ho) (by rw [show (Pt.mk w.heap.size 0 T 1 0).seq = T.seq w.heap.size 0 1 0 from rfl, lvs_seq]; exact hlv) (htm _)
  have hrs : ∀ (w : World) (a : Addr) (f : Nat) (x : Array Value), (store a (Value.func (Fn.func f) x #[])).run Tryd.prog w = _ := fun w a f x => run_store Tryd.prog w a (.func (.func f) x #[]) .plain rfl
  go_enter Tryd.func19, Tryd.ntmps19
  go_wp2_with (go_at_call 42; refine h42.mono ?_; rintro e w4 ⟨rfl, hb4⟩)
  clear h42
  obtain ⟨w5, hw5, hb5, U5, hs5⟩ := one_new w4 [.func (.func 43) #[.agg #[.pointer (some ⟨w.heap.size + 1, 0, none⟩)]] #[], .func (.func 44) #[] #[], .slice none 0 0] 71
  have hz4 := hb4.size
  have hb34 := hb3.trans (hb4.mono hb3.size)
  have hb35 := hb34.trans (hb5.mono hb34.size)
  have hz5 := hb35.size
  have c5 := (cT.on hb4).on hb5
  have T5 := hT.on hb35
  have hcall := of_any (Fit := FitN 1000000) (RV := fun p T' => IsVar (pvn p) T') (RL := SameLv) w4.heap.size w4.heap.size 1000000 _ w.heap.size 0 T w5 U5 (Nat.le_refl _) (by omega) c5 ((hin.below hb35 (Nat.le_refl _)).mono (fun k hk => by omega)) (by omega) ⟨⟨OkT.good hN T ho hlv, by show 1 + T.size ≤ 1000000; omega, by show 0 + T.size ≤ 1000000; omega⟩, htm _⟩
    (fun p h => h.1.1.kind) (by omega) (do77_none _ (by omega))
    (do78 (fun p w' h1 h2 => cop_good p w' h1.1 h2)) (do79 (by omega) T5 (Nat.le_refl _) (by omega) (fun p h => fitN_all (by omega) p h) (fun p w' h1 h2 => cop_good p w' h1.1 h2))
  have HW5 : Hid (w4.alloc (.cells #[.func (.func 43) #[.agg #[.pointer (some ⟨w.heap.size + 1, 0, none⟩)]] #[], .func (.func 44) #[] #[], .slice none 0 0] 71) = w5) := hw5
  clear hw5
  go_wp2_with fail
  rw [HW5.out]
  refine hcall.mono ?_
  rintro e w6 ⟨T', hi, rfl, ht, hb6⟩
  have R6 := ((R3.below hb4 R3.lt).below hb5 (R3.below hb4 R3.lt).lt).below hb6 (by have := R3.lt; omega)
  have x0 := R6.cell (j := 0) rfl
  have x1 := R6.cell (j := 1) rfl
  have x2 := R6.cell (j := 2) rfl
  have x3 := R6.cell (j := 3) rfl
  have x4 := R6.cell (j := 4) rfl
  have f0 := R6.frozen 0
  have f1 := R6.frozen 1
  have f2 := R6.frozen 2
  have f3 := R6.frozen 3
  have f4 := R6.frozen 4
  clear hcall
  go_wp2_with fail
  obtain ⟨Q, K⟩ := st5 R6 (.int .i64 T'.k) (.int .i64 T'.n) (.string T'.s) (.slice T'.la T'.ls.length T'.lc) (.slice T'.a T'.args.length T'.c)
  have s0 := Q.cell (j := 0) rfl
  have s1 := Q.cell (j := 1) rfl
  have s2 := Q.cell (j := 2) rfl
  have s3 := Q.cell (j := 3) rfl
  have s4 := Q.cell (j := 4) rfl
  have hz6 := hb6.size
  have hkb := K.below (B := w.heap.size) (by omega) (fun k e => by omega)
  exact bodyPost_ret (v := (Value.agg #[.int .i64 T'.k, .int .i64 T'.n, .string T'.s, .slice T'.la T'.ls.length T'.lc, .slice T'.a T'.args.length T'.c])) (by simp [results, Tryd.results19, go_sem, s0, s1, s2, s3, s4]) rfl ⟨_, T', hi, rfl, TIn.carry (fun k hk => K.block k hk.2.1 (fun e => by omega)) (fun k hk => Nat.lt_of_lt_of_le hk.2.1 K.size) T' ht, hb35.trans ((hb6.mono (by omega)).trans hkb)⟩
end Go.Proofs.YtbmijpjmdpdfkaaDoor
