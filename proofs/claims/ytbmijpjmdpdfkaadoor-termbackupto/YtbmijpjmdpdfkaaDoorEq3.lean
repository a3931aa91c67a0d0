/- The walk of term's Equal of a term and itself. No condition but that it lies in memory, has fewer than 2^20 parts, and no Levels. -/
import Derived.Test.YtbmijpjmdpdfkaaDoorEq2
namespace Go.Proofs.YtbmijpjmdpdfkaaDoor
open Go.RowKit

theorem enter58 (args : Array Value) (w : World) : (callFunc 58 args).run Tryd.prog w = .ok (.enter 58 args) w := enter_of Tryd.func58 (by kernel_rfl) rfl args w
theorem enter59 (args : Array Value) (w : World) : (callFunc 59 args).run Tryd.prog w = .ok (.enter 59 args) w := enter_of Tryd.func59 (by kernel_rfl) rfl args w

/-- A call with three arguments whose guard lets it run. -/
theorem step_call3 {P : Program} {ops : Array Oper} {o : Oper} {a : Act} {w : World} {K : Act → World → Prop} {Q : Exit → Act → World → Prop} {E : Prop}
    (hw : Region.wanted o (yielded ops a.tmps) = true) (f : FuncId) (hrun : ∀ (args : Array Value) (w : World), (callFunc f args).run P w = .ok (.enter f args) w) (x y z : Operand) (ts : Array TypeId) (hop : o.op = Op.call { callee := Callee.value (Operand.func f), args := #[x, y, z], argTypes := ts })
    (u v t : Value) (hx : a.eval x = u) (hy : a.eval y = v) (hz : a.eval z = t) (h : Calls P f #[u, v, t] w fun e w' => ∃ r, e = .returned r ∧ K (a.put o.dst r) w') :
    if Region.wanted o (yielded ops a.tmps) = true then Oper.wp P o a w K Q else E := by
  rw [if_pos hw]
  subst hx hy hz
  unfold Oper.wp
  have he : (execOp a.eval o).run P w = .ok (.enter f #[a.eval x, a.eval y, a.eval z]) w := by
    have := hrun #[a.eval x, a.eval y, a.eval z] w
    simpa [go_sem, execOp, hop] using this
  rw [he]
  refine h.mono ?_
  rintro e w' ⟨r, rfl, hr⟩
  exact hr

theorem five_new (w : World) (l0 l1 l2 l3 l4 : List Value) (t0 t1 t2 t3 t4 : TypeId) : ∃ w1, ((((w.alloc (.cells l0.toArray t0)).alloc (.cells l1.toArray t1)).alloc (.cells l2.toArray t2)).alloc (.cells l3.toArray t3)).alloc (.cells l4.toArray t4) = w1 ∧ Below w.heap.size w w1 ∧
    Blk w1 w.heap.size t0 l0 ∧ Blk w1 (w.heap.size + 1) t1 l1 ∧ Blk w1 (w.heap.size + 2) t2 l2 ∧ Blk w1 (w.heap.size + 3) t3 l3 ∧ Blk w1 (w.heap.size + 4) t4 l4 ∧ w1.heap.size = w.heap.size + 5 := by
  obtain ⟨w1, h1, hb, A, B, C, D, hs⟩ := four_new w l0 l1 l2 l3 t0 t1 t2 t3
  rw [h1]
  refine ⟨_, rfl, hb.alloc (by omega) _, A.alloc _, B.alloc _, C.alloc _, D.alloc _, ?_, by simp [hs]⟩
  have := Blk.new w1 t4 l4
  rwa [hs] at this

set_option maxRecDepth 100000 in
set_option maxHeartbeats 1000000 in
theorem equal_self (T : Tr) (w : World) (B : Nat) (hT : Tabs w) (h3 : 3 ≤ B) (hB : B ≤ w.heap.size) (hin : TIn w (· < B) T) (hsz : T.size < 1048576) (hpl : ∀ g, Plainly (Pt.mk g 0 T 1 0).seq) :
    Calls Tryd.prog 32 #[T.val, T.val] w fun e w' => e = .returned (.bool true) ∧ Below w.heap.size w w' := by
  unfold Tr.val
  obtain ⟨w5, hw5, hb5, BA, BB, CA, CB, CL, hs5⟩ := five_new w ([.int .i64 T.k, .int .i64 T.n, .string T.s, .slice T.la T.ls.length T.lc, .slice T.a T.args.length T.c] : List Value) ([.int .i64 T.k, .int .i64 T.n, .string T.s, .slice T.la T.ls.length T.lc, .slice T.a T.args.length T.c] : List Value) [.pointer (some ⟨w.heap.size, 0, none⟩), .slice none 0 0] [.pointer (some ⟨w.heap.size + 1, 0, none⟩), .slice none 0 0] [.slice none 0 0, .int .i64 0, .map none] 25 25 86 86 90
  have T5 := hT.on hb5
  have I5 := hin.below hb5 hB
  have cA : TCells w5 w.heap.size 0 T := tcells_box BA
  have cB : TCells w5 (w.heap.size + 1) 0 T := tcells_box BB
  have rA := root_at w5 B w.heap.size T cA I5
  have rB := root_at w5 B (w.heap.size + 1) T cB I5
  have S0 : EqS w5 w.heap.size B T w5 [] [] (some ⟨w.heap.size, 0, none⟩) (some ⟨w.heap.size + 1, 0, none⟩) [] [] (.slice none 0 0) (.slice none 0 0) (.slice none 0 0) :=
    ⟨⟨⟨CA, rfl, .inl ⟨rfl, rfl⟩⟩, .inl ⟨rfl, rfl, rfl, rfl⟩, (fun x hx => by cases hx), Nat.le_refl _, (fun k e => by cases e), by omega, T5, cA, I5⟩,
     ⟨⟨CB, rfl, .inl ⟨rfl, rfl⟩⟩, .inl ⟨rfl, rfl, rfl, rfl⟩, (fun x hx => by cases hx), Nat.le_refl _, (fun k e => by cases e), by omega, T5, cB, I5⟩,
     ⟨CL, rfl, .inl ⟨rfl, rfl⟩⟩, (fun k e => by cases e), Below.refl _ _⟩
  clear BA BB CA CB CL cA cB I5 T5
  go_enter Tryd.func32, Tryd.ntmps32
  go_wp2_with fail
  go_loopw [14] (fun i wr => ∃ pre preB fA fB stA stB vA vB vL, i = .int .i64 ((pre.length : Nat) : Int) ∧ EqS w5 w.heap.size B T wr pre preB fA fB stA stB vA vB vL ∧ preB.length = pre.length) (fun i _ => T.size + 1 - (intOf i).toNat)
  case atStart => exact ⟨[], [], _, _, [], [], _, _, _, rfl, S0, rfl⟩
  case round =>
    clear S0 hw5
    obtain ⟨pre, preB, fA, fB, stA, stB, vA, vB, vL, rfl, I, hlp⟩ := hrel
    have hlen : ((Pt.mk w.heap.size 0 T 1 0).seq).length = T.size := Tr.seq_len _ _ _ _ _
    have hlenB : ((Pt.mk (w.heap.size + 1) 0 T 1 0).seq).length = T.size := Tr.seq_len _ _ _ _ _
    rcases I.a.next rfl rfl (by omega) (Nat.le_refl _) (by show w.heap.size < w.heap.size + 2; omega) hsz with ⟨hpre, rfl, rfl⟩ | ⟨x, stA', hseq, hcallA, hstA, hopsA⟩
    · have hpl2 : pre.length < 1048576 := by rw [hpre, hlen]; exact hsz
      have hdl : decide ((pre.length : Int) < 1048576) = true := by simp; omega
      have HH : Hid (pre.length < 1048576) := hpl2
      have HP : Hid (pre = (Pt.mk w.heap.size 0 T 1 0).seq) := hpre
      clear hpl2 hsz hlen hlenB hpre hlp hpl rA rB
      have hn := next_none (w.heap.size + 2) (w.heap.size + 2) wr vA I.a.ws
      go_wp2_with (go_at_call 57; refine hn.mono ?_; rintro e w6 ⟨rfl, hb6⟩)
      go_ret
      exact ⟨rfl, hb5.trans ((I.low.mono (by omega)).trans ((hb6.mono (by have := I.a.size; omega)).alloc (by have := I.a.size; have := hb6.size; omega) _))⟩
    · have hpl2 : pre.length < 1048576 := by rw [hseq] at hlen; simp at hlen; omega
      have hdl : decide ((pre.length : Int) < 1048576) = true := by simp; omega
      have HL : Hid (pre.length + 1 ≤ T.size ∧ pre.length ≤ 4611686018427387904) := by
        show _ ∧ _
        rw [hseq] at hlen
        simp only [List.length_append, List.length_cons] at hlen
        exact ⟨by omega, by omega⟩
      have HQ : Hid ((Pt.mk w.heap.size 0 T 1 0).seq = pre ++ x :: Stk.rem stA') := hseq
      have HB : Hid (preB.length = pre.length) := hlp
      have HS : Hid (T.size < 1048576) := hsz
      have HLB : Hid (((Pt.mk (w.heap.size + 1) 0 T 1 0).seq).length = T.size) := hlenB
      have hxm : x ∈ (Pt.mk w.heap.size 0 T 1 0).seq := by rw [hseq]; simp
      have hxi : (Pt.mk w.heap.size 0 T 1 0).seq[pre.length]? = some x := by rw [hseq]; simp
      clear hpl2 hsz hlen hlenB hseq hlp
      have hzr := I.a.size
      have hgl := I.b.ws.blk.lt
      have hll := I.lk.blk.lt
      go_wp2_with fail
      refine hcallA.mono ?_
      rintro e w1 ⟨rfl, hx1⟩
      obtain ⟨vA', I1⟩ := I.stepA h3 hB HQ.out hstA hopsA hx1
      have hz1 := hx1.keep.size
      have hPx := hpl _ x hxm
      have hAx := rA x hxm
      obtain ⟨xb, xoff, xt, xd, xm⟩ := x
      obtain ⟨w2, hw2, hb2, P2, hs2⟩ := one_new w1 [.pointer (some ⟨xb, xoff, none⟩), .int .i64 (xd : Int), .int .i64 (xm : Int)] 50
      have I2 := I1.below h3 hB hb2
      rcases I2.b.next rfl rfl (by omega) (by omega) (by show w.heap.size + 1 < w.heap.size + 2; omega) HS.out with ⟨hpre, _, _⟩ | ⟨y, stB', hseqB, hcallB, hstB, hopsB⟩
      · have h1 := HLB.out
        rw [← hpre] at h1
        have h2 := HL.out.1
        have h3 := HB.out
        omega
      · have HQB : Hid ((Pt.mk (w.heap.size + 1) 0 T 1 0).seq = preB ++ y :: Stk.rem stB') := hseqB
        have hym : y ∈ (Pt.mk (w.heap.size + 1) 0 T 1 0).seq := by rw [hseqB]; simp
        have hyi : (Pt.mk (w.heap.size + 1) 0 T 1 0).seq[pre.length]? = some y := by rw [hseqB, ← HB.out]; simp
        clear hseqB
        have hAy := rB y hym
        have hst := (seq_same T _ _ _ _ _ hxi hyi).1
        obtain ⟨yb, yoff, yt, yd, ym⟩ := y
        simp only at hst hPx
        subst hst
        dsimp only [Pt.val]
        have p0 := P2.cell (j := 0) rfl
        have p1 := P2.cell (j := 1) rfl
        have p2 := P2.cell (j := 2) rfl
        go_wp2_with fail
        refine hcallB.mono ?_
        rintro e w3 ⟨rfl, hx3⟩
        obtain ⟨vB', I3⟩ := I2.stepB h3 hB HQB.out hstB hopsB hx3
        have hz3 := hx3.keep.size
        have P3 : Blk w3 w1.heap.size 50 [.pointer (some ⟨xb, xoff, none⟩), .int .i64 (xd : Int), .int .i64 (xm : Int)] := P2.carry (hx3.keep.block _ P2.lt (fun e => e.elim (fun e => by omega) (owns_ne I2.b.ws.row P2 (by decide))))
        obtain ⟨w4, hw4, hb4, Q4, hs4⟩ := one_new w3 [.pointer (some ⟨yb, yoff, none⟩), .int .i64 (yd : Int), .int .i64 (ym : Int)] 50
        have I4 := I3.below h3 hB hb4
        have P4 := P3.below hb4 P3.lt
        have X4 : TCells w4 xb xoff xt := (hAx.carry (fun k hk => I4.low.block k (by omega))).cells
        have Y4 : TCells w4 yb yoff xt := (hAy.carry (fun k hk => I4.low.block k (by omega))).cells
        have hcall58 := alike_self xb xoff xd xm yb yoff yd ym xt w4.drew (X4.carry rfl) (Y4.carry rfl)
        have x0 := P4.cell (j := 0) rfl
        have x1 := P4.cell (j := 1) rfl
        have x2 := P4.cell (j := 2) rfl
        have y0 := Q4.cell (j := 0) rfl
        have y1 := Q4.cell (j := 1) rfl
        have y2 := Q4.cell (j := 2) rfl
        have hls : xt.ls.length = 0 := by rw [hPx.2]; rfl
        dsimp only [Pt.val]
        have hz4 := I4.a.size
        clear hw2 hcallA hcallB p0 p1 p2
        go_wp2_with fail
        go_region_law (first
          | (refine step_call (by rfl) 58 enter58 (.tmp 26) (.tmp 27) #[50, 50] (by rfl) _ _ (by rfl) (by rfl) (hcall58.mono ?_); rintro e w6 ⟨rfl, hb6'⟩; refine ⟨_, rfl, ?_⟩; have hb6 : Below w4.heap.size w4 w6 := Below.trans (Below.refl _ _).drew hb6'; have I6 := I4.below h3 hB hb6; have P6 := P4.below hb6 P4.lt; have Q6 := Q4.below hb6 Q4.lt; have s0 := P6.cell (j := 0) rfl; have r0 := Q6.cell (j := 0) rfl; have s3 := (hAx.carry (fun k hk => I6.low.block k (by omega))).cells.c3; have r3 := (hAy.carry (fun k hk => I6.low.block k (by omega))).cells.c3; rw [hls] at s3 r3; have hcall59 := holds_nil (w.heap.size + 2) (w.heap.size + 4) (.int .i64 0) (.map none) vL xt.la xt.la xt.lc xt.lc w6 I6.lk I6.a.size)
          | (refine step_call3 (by rfl) 59 enter59 (.tmp 7) (.tmp 35) (.tmp 40) #[90, 22, 22] (by rfl) _ _ _ (by rfl) (by rfl) (by rfl) (hcall59.mono ?_); rintro e w7 ⟨rfl, ⟨vL', hl7, _⟩, hk7⟩; refine ⟨_, rfl, ?_⟩; have I7 := I6.held h3 hB hl7 hk7))
        all_goals
          clear hcall59 s3 r3 s0 r0 P6 Q6 hb6' hb6 I6 hk7 hl7 hcall58 X4 Y4 x0 x1 x2 y0 y1 y2 hls hz4 P4 Q4 I4 hb4 hw4 hs4 P3 hz3 hx3 I3 hstB hopsB hym hyi hAy hPx hAx P2 hs2 I2 hb2 hz1 hx1 I1 hstA hopsA hxm hxi rA rB hpl HQ HQB HLB HS hzr hgl hll I hT hin
          simp only [List.getElem_toArray, List.getElem_cons_succ, List.getElem_cons_zero, Act.put, List.setIfInBounds_toArray, List.set_cons_succ, List.set_cons_zero]
          go_wp2_with fail
          go_roundw
          case rel =>
            have hwr : wrap64 ((pre.length : Int) + 1) = (pre.length : Int) + 1 := wrap64_small _ (by omega) (by have := HL.out.2; omega)
            exact ⟨_, _, _, _, _, _, _, _, _, by simp [hwr], I7, by simp [HB.out]⟩
          case measure => exact meas_go _ _ HL.out.1 HL.out.2
end Go.Proofs.YtbmijpjmdpdfkaaDoor
