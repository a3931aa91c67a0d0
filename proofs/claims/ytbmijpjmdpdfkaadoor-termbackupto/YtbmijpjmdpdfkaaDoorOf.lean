/- The walk of a turn's of. No condition but that the term lies in memory and the functions that do its jobs keep what they must. -/
import Derived.Test.YtbmijpjmdpdfkaaDoorOf0
namespace Go.Proofs.YtbmijpjmdpdfkaaDoor
open Go.RowKit

theorem enter80 (args : Array Value) (w : World) : (callFunc 80 args).run Tryd.prog w = .ok (.enter 80 args) w := enter_of Tryd.func80 (by kernel_rfl) rfl args w

theorem enter77 (args : Array Value) (w : World) : (callFunc 77 args).run Tryd.prog w = .ok (.enter 77 args) w := enter_of Tryd.func77 (by kernel_rfl) rfl args w
theorem enter78 (args : Array Value) (w : World) : (callFunc 78 args).run Tryd.prog w = .ok (.enter 78 args) w := enter_of Tryd.func78 (by kernel_rfl) rfl args w

/-- A call of a function value that stands in an operand, with two arguments. -/
theorem step_callv {P : Program} {ops : Array Oper} {o : Oper} {a : Act} {w : World} {K : Act → World → Prop} {Q : Exit → Act → World → Prop} {E : Prop}
    (hg : o.guard = none) (c x y : Operand) (ts : Array TypeId) (hop : o.op = Op.call { callee := Callee.value c, args := #[x, y], argTypes := ts }) (f : FuncId) (hrun : ∀ (args : Array Value) (w : World), (callFunc f args).run P w = .ok (.enter f args) w)
    (hc : a.eval c = .func (.func f) #[] #[]) (u v : Value) (hx : a.eval x = u) (hy : a.eval y = v) (h : Calls P f #[u, v] w fun e w' => ∃ r, e = .returned r ∧ K (a.put o.dst r) w') :
    if Region.wanted o (yielded ops a.tmps) = true then Oper.wp P o a w K Q else E := by
  have hw : Region.wanted o (yielded ops a.tmps) = true := by simp [Region.wanted, hg]
  rw [if_pos hw]
  subst hx hy
  unfold Oper.wp
  have he : (execOp a.eval o).run P w = .ok (.enter f #[a.eval x, a.eval y]) w := by
    have := hrun #[a.eval x, a.eval y] w
    simp [execOp, hop, resolve, Deferred.ofValue, invoke, hc, this]
  rw [he]
  refine h.mono ?_
  rintro e w' ⟨r, rfl, hr⟩
  exact hr

set_option maxRecDepth 100000 in
set_option maxHeartbeats 8000000 in
theorem of_any {Fit : Pt → Prop} {RV : Pt → Tr → Prop} {RL : List Lv → List Lv → Prop} (B gu M : Nat) (fv : Value) (b off : Nat) (T : Tr) (w : World) (hu : Blk w gu 71 [fv, .func (.func 44) #[] #[], .slice none 0 0]) (hgu : B ≤ gu) (hB : B ≤ w.heap.size) (hc : TCells w b off T) (hin : TIn w (· < B) T) (hb : b < B) (hfit : Fit ⟨b, off, T, 1, 0⟩) (hk : ∀ p, Fit p → 0 ≤ p.t.k ∧ p.t.k ≤ 6) (hM : T.size ≤ M)
    (h77 : DoOk Fit (fun W => DoneB (Img RV RL) B W (⟨b, off, T, 1, 0⟩, w.heap.size, 0)) (Img RV RL) w B gu (w.heap.size + 1) w.heap.size M fv 77 (fun k => k = 0))
    (h78 : DoOk Fit (fun W => DoneB (Img RV RL) B W (⟨b, off, T, 1, 0⟩, w.heap.size, 0)) (Img RV RL) w B gu (w.heap.size + 1) w.heap.size M fv 78 (fun k => k = 1 ∨ k = 2))
    (h79 : DoOk Fit (fun W => DoneB (Img RV RL) B W (⟨b, off, T, 1, 0⟩, w.heap.size, 0)) (Img RV RL) w B gu (w.heap.size + 1) w.heap.size M fv 79 (fun k => 3 ≤ k ∧ k ≤ 6)) :
    Calls Tryd.prog 45 #[.pointer (some ⟨gu, 0, none⟩), .pointer (some ⟨b, off, none⟩)] w fun e w' => ∃ T', Img RV RL ⟨b, off, T, 1, 0⟩ T' ∧ e = .returned (.agg #[.int .i64 T'.k, .int .i64 T'.n, .string T'.s, .slice T'.la T'.ls.length T'.lc, .slice T'.a T'.args.length T'.c]) ∧ TIn w' (fun k => B ≤ k ∧ k < w'.heap.size ∧ ¬ XB w' k) T' ∧ Below B w w' := by
  have hrs : ∀ (w : World) (a : Addr) (f : Nat), (store a (Value.func (Fn.func f) #[] #[])).run Tryd.prog w = _ := fun w a f => run_store Tryd.prog w a (.func (.func f) #[] #[]) .plain rfl
  obtain ⟨wA, hwA, hbA, O, F, hsA⟩ := two_new w ([.int .i64 0, .int .i64 0, .string { data := #[] }, .slice none 0 0, .slice none 0 0] : List Value) [.func (.func 77) #[] #[], .func (.func 78) #[] #[], .func (.func 78) #[] #[], .func (.func 79) #[] #[], .func (.func 79) #[] #[], .func (.func 79) #[] #[], .func (.func 79) #[] #[]] 25 111
  have U := hu.below hbA hu.lt
  have u2 := U.cell (j := 2) rfl
  have lu := hu.lt
  have hcall := root_any b off wA.drew
  obtain ⟨i114, hi114, hz114, hs114, hb114⟩ := info114
  go_enter Tryd.func45, Tryd.ntmps45
  go_wp2_with fail
  go_region_law (first
    | (refine step_call1 (by rfl) 80 enter80 (.tmp 14) #[48] (by rfl) _ (by rfl) (hcall.mono ?_); rintro e w8 ⟨rfl, hb8'⟩; refine ⟨_, rfl, ?_⟩; have hb8 : Below wA.heap.size wA w8 := Below.trans (Below.refl _ _).drew hb8'; have U8 := U.below hb8 U.lt; have y2 := U8.cell (j := 2) rfl; have hs8 := hb8.size; obtain ⟨w9, hw9, hb9, X9, hs9⟩ := one_new w8 [.pointer (some ⟨b, off, none⟩), .int .i64 1, .int .i64 0, .pointer (some ⟨w.heap.size, 0, none⟩)] 114; have U9 := U8.below hb9 U8.lt; have t2 := U9.cell (j := 2) rfl)
    | (refine step_append_own (by rfl) (.tmp 13) (.tmp 17) 69 (by rfl) B 114 i114 _ 4 32 Tryd.underlying69 hi114 hz114 hs114 hb114 (by rfl) (by decide) (.slice none 0 0) 0 [] (by rfl) ⟨rfl, .inl ⟨rfl, rfl⟩⟩ ⟨w8.heap.size, 0, none⟩ 1 1 [.pointer (some ⟨b, off, none⟩), .int .i64 1, .int .i64 0, .pointer (some ⟨w.heap.size, 0, none⟩)] (by rfl) (by rfl) (fun i u hu => by rw [Addr.add_lit, Nat.zero_add]; exact X9.cell hu) (by simp [Value.oneCell']) (by unfold maxLen; omega) (by omega) (by omega) (by decide) ?_; intro v' w10 ho10 hg10 hn10; obtain ⟨g', c', rfl, hg'1, hg'2, hg'3, hg'4⟩ := owns_shape ho10 (by omega); have U10 := U9.carry (hg10.block gu U9.lt (fun e => by cases e)); have t3 := U10.cell (j := 2) rfl; have t4 := U10.frozen 2))
  all_goals
    go_wp2_with fail
    obtain ⟨S0, X0, Z0⟩ := OfS.start (Im := Img RV RL) hgu lu hB hc hin hb hfit hbA O rfl F (hb8.trans (hb9.mono hb8.size)) hg10 ho10 U10
    obtain ⟨w11, hw11⟩ : ∃ w11, w10.setCell ⟨gu, 2, none⟩ (.slice (some ⟨g', 0, none⟩) 1 c') = w11 := ⟨_, rfl⟩
    rw [hw11] at S0 X0 Z0
    rw [hw11]
    clear hwA hw9 hcall
    go_loopw [] (fun wr => ∃ js v, OfS Fit (fun W => DoneB (Img RV RL) B W (⟨b, off, T, 1, 0⟩, w.heap.size, 0)) (Img RV RL) w wr B gu (w.heap.size + 1) w.heap.size fv js js v ∧ ¬ XB wr w.heap.size ∧ w.heap.size ≤ wr.heap.size ∧ mass js ≤ M) (fun wr => leastOf (fun n => ∃ js v, mass js = n ∧ OfS Fit (fun W => DoneB (Img RV RL) B W (⟨b, off, T, 1, 0⟩, w.heap.size, 0)) (Img RV RL) w wr B gu (w.heap.size + 1) w.heap.size fv js js v))
    case atStart => exact ⟨_, _, S0, X0, Z0, by simp only [mass]; omega⟩
    case round =>
      obtain ⟨js0, v0, I0, hx0, hz0, hm0⟩ := hrel
      obtain ⟨js, v, hmass, I⟩ := leastOf_is (P := fun n => ∃ js v, mass js = n ∧ OfS Fit (fun W => DoneB (Img RV RL) B W (⟨b, off, T, 1, 0⟩, w.heap.size, 0)) (Img RV RL) w wr B gu (w.heap.size + 1) w.heap.size fv js js v) ⟨_, js0, v0, rfl, I0⟩
      have hle : mass js ≤ M := by rw [hmass]; exact Nat.le_trans (leastOf_le ⟨js0, v0, rfl, I0⟩) hm0
      have HM : Hid (mass js = leastOf (fun n => ∃ js v, mass js = n ∧ OfS Fit (fun W => DoneB (Img RV RL) B W (⟨b, off, T, 1, 0⟩, w.heap.size, 0)) (Img RV RL) w wr B gu (w.heap.size + 1) w.heap.size fv js js v)) := hmass
      clear hmass I0 hm0 S0 X0 Z0
      cases js with
      | nil =>
        obtain ⟨T', hi, hcl, htin⟩ := I.wand wr (Later.refl _ _) (fun x hx => by cases hx)
        obtain ⟨ao, cap, rfl⟩ := owns_sl I.row.row
        have u : wr.cell? ⟨gu, 2, none⟩ = some (.slice ao 0 cap) := I.row.blk.cell (j := 2) rfl
        have c0 : wr.cell? ⟨w.heap.size, 0, none⟩ = some (.int .i64 T'.k) := hcl.c0
        have c1 : wr.cell? ⟨w.heap.size, 1, none⟩ = some (.int .i64 T'.n) := hcl.c1
        have c2 : wr.cell? ⟨w.heap.size, 2, none⟩ = some (.string T'.s) := hcl.c2
        have c3 : wr.cell? ⟨w.heap.size, 3, none⟩ = some (.slice T'.la T'.ls.length T'.lc) := hcl.c3
        have c4 : wr.cell? ⟨w.heap.size, 4, none⟩ = some (.slice T'.a T'.args.length T'.c) := hcl.c4
        have f0 := I.root.frozen 0
        have f1 := I.root.frozen 1
        have f2 := I.root.frozen 2
        have f3 := I.root.frozen 3
        have f4 := I.root.frozen 4
        have hsame := put5_same hcl
        have hin5 := put5_in I.root (.int .i64 T'.k) (.int .i64 T'.n) (.string T'.s) (.slice T'.la T'.ls.length T'.lc) (.slice T'.a T'.args.length T'.c)
        unfold put5 at hsame hin5
        simp only [Nat.zero_add] at hsame hin5
        obtain ⟨d0, d1, d2, d3, d4⟩ := hin5
        go_wp2_with fail
        exact bodyPost_ret (v := .agg #[.int .i64 T'.k, .int .i64 T'.n, .string T'.s, .slice T'.la T'.ls.length T'.lc, .slice T'.a T'.args.length T'.c]) (by simp [results, Tryd.results45, go_sem, d0, d1, d2, d3, d4]) rfl ⟨T', hi, rfl, TIn.carry (fun b _ => hsame b) (fun k hk => ⟨hk.1, by simp [World.setCell]; exact hk.2.1, fun hx => hk.2.2 ((XB.carry (hsame k)).1 hx)⟩) T' htin, I.low.trans ⟨rfl, rfl, rfl, by simp [World.setCell], fun k _ => hsame k⟩⟩
      | cons x r =>
        obtain ⟨p, tb, toff⟩ := x
        obtain ⟨g, cap, hv, hg1, hg2, hg3, hg4⟩ := owns_shape I.row.row (by simp)
        subst hv
        have J := I.jobs _ (List.mem_cons_self ..)
        have hkk := hk p J.fit
        have row := I.row.row
        have U := I.row.blk
        obtain ⟨n, hn⟩ : ∃ n, r.length = n := ⟨_, rfl⟩
        simp only [Jobs.cells, List.length_cons, hn] at row U hg3
        have hcl : (Jobs.cells r).length = n * 4 := by rw [Jobs.cells_len, hn]
        have at_ : ∀ i c, ([.pointer (some ⟨p.b, p.off, none⟩), .int .i64 (p.d : Int), .int .i64 (p.m : Int), .pointer (some ⟨tb, toff, none⟩)] : List Value)[i]? = some c → wr.cell? ⟨g, n * 4 + i, none⟩ = some c := fun i c hi => by
          obtain ⟨g2, h1, _, _, _, _, h2⟩ := owns_cell row (i := n * 4 + i) (c := c) (by rw [List.getElem?_append_right (by omega), hcl, show n * 4 + i - n * 4 = i from by omega]; exact hi)
          simp only [Option.some.injEq, Addr.mk.injEq, and_true] at h1
          rw [h1]; exact h2
        have e0 : wr.cell? ⟨g, n * 4, none⟩ = _ := at_ 0 _ rfl
        have e1 := at_ 1 _ rfl
        have e2 := at_ 2 _ rfl
        have e3 := at_ 3 _ rfl
        have u2 := U.cell (j := 2) rfl
        have uf := U.frozen 2
        have lgu := U.lt
        have HN : Hid (r.length = n) := hn
        clear at_ hn hcl
        have hnb : n ≤ 9223372036854775806 := by unfold maxLen at hg4; omega
        have hnc : n ≤ cap := by omega
        have hng : gu ≠ wr.heap.size := by omega
        have hng' : wr.heap.size ≠ gu := by omega
        go_wp2_with fail
        obtain ⟨w5, hw5, K5, U5, X5, hs5⟩ : ∃ w5, (wr.setCell ⟨gu, 2, none⟩ (.slice (some ⟨g, 0, none⟩) n cap)).alloc (.cells #[.pointer (some ⟨p.b, p.off, none⟩), .int .i64 (p.d : Int), .int .i64 (p.m : Int), .pointer (some ⟨tb, toff, none⟩)] 114) = w5 ∧ Keep wr w5 (fun k => k = gu) ∧ Blk w5 gu 71 [fv, .func (.func 44) #[] #[], .slice (some ⟨g, 0, none⟩) n cap] ∧ Blk w5 wr.heap.size 114 [.pointer (some ⟨p.b, p.off, none⟩), .int .i64 (p.d : Int), .int .i64 (p.m : Int), .pointer (some ⟨tb, toff, none⟩)] ∧ wr.heap.size ≤ w5.heap.size := by
          refine ⟨_, rfl, ((Keep.refl wr (fun k => k = gu)).setCell (g := gu) (fun _ => rfl) _ _).alloc _, (U.set 2 _).alloc _, ?_, by simp [World.setCell]⟩
          have := Blk.new (wr.setCell ⟨gu, 2, none⟩ (.slice (some ⟨g, 0, none⟩) n cap)) 114 [.pointer (some ⟨p.b, p.off, none⟩), .int .i64 (p.d : Int), .int .i64 (p.m : Int), .pointer (some ⟨tb, toff, none⟩)]
          rwa [show (wr.setCell ⟨gu, 2, none⟩ (.slice (some ⟨g, 0, none⟩) n cap)).heap.size = wr.heap.size from by simp [World.setCell]] at this
        rw [hw5]
        have K6 : Keep wr w5.drew (fun k => k = gu) := ⟨K5.os, K5.tape, K5.output, K5.size, K5.block⟩
        have row6 : w5.drew.ownsRow B 114 4 (.slice (some ⟨g, 0, none⟩) n cap) n (Jobs.cells r) := owns_block (owns_cut row (by rw [Jobs.cells_len, HN.out]) (by omega)) (fun k e => K6.block k (by simp [Value.ownBlock] at e; omega) (fun h => by simp [Value.ownBlock] at e; exact owns_ne row U (by decide) (by simp [Value.ownBlock]; omega)))
        have I6 := I.turned K6 hgu (js' := r) (v' := .slice (some ⟨g, 0, none⟩) n cap) ⟨U5.drew, by rw [HN.out]; exact row6⟩ hx0 (by omega)
        have hX6 : ¬ XB w5.drew w.heap.size := fun hx => hx0 ((XB.carry (K6.block w.heap.size I.root.lt (fun e => by omega))).1 hx)
        have hB6 : B ≤ w5.drew.heap.size := by show B ≤ w5.heap.size; omega
        have x0 := X5.cell (j := 0) rfl
        have x1 := X5.cell (j := 1) rfl
        have x2 := X5.cell (j := 2) rfl
        have x3 := X5.cell (j := 3) rfl
        have hplt : p.b < B := J.lt
        have cp : w5.cell? ⟨p.b, p.off, none⟩ = some (.int .i64 p.t.k) := (J.cells.carry (I6.low.block _ hplt)).c0
        have A := I6.arr
        have a0 : w5.cell? ⟨w.heap.size + 1, 0, none⟩ = some (.func (.func 77) #[] #[]) := A.cell (j := 0) rfl
        have a1 : w5.cell? ⟨w.heap.size + 1, 1, none⟩ = some (.func (.func 78) #[] #[]) := A.cell (j := 1) rfl
        have a2 : w5.cell? ⟨w.heap.size + 1, 2, none⟩ = some (.func (.func 78) #[] #[]) := A.cell (j := 2) rfl
        have a3 : w5.cell? ⟨w.heap.size + 1, 3, none⟩ = some (.func (.func 79) #[] #[]) := A.cell (j := 3) rfl
        have a4 : w5.cell? ⟨w.heap.size + 1, 4, none⟩ = some (.func (.func 79) #[] #[]) := A.cell (j := 4) rfl
        have a5 : w5.cell? ⟨w.heap.size + 1, 5, none⟩ = some (.func (.func 79) #[] #[]) := A.cell (j := 5) rfl
        have a6 : w5.cell? ⟨w.heap.size + 1, 6, none⟩ = some (.func (.func 79) #[] #[]) := A.cell (j := 6) rfl
        obtain ⟨j, hj⟩ : ∃ j : Nat, p.t.k = j := ⟨p.t.k.toNat, by omega⟩
        have hj7 : j < 7 := by omega
        have k77 := fun h => h77 w5.drew r _ p tb toff h I6 hX6 hB6 hle
        have k78 := fun h => h78 w5.drew r _ p tb toff h I6 hX6 hB6 hle
        have k79 := fun h => h79 w5.drew r _ p tb toff h I6 hX6 hB6 hle
        rw [hj] at cp k77 k78 k79
        clear hj hkk hw5
        have hj0 : (0 : Int) ≤ (j : Int) := by omega
        have hj6 : (j : Int) < 7 := by omega
        obtain ⟨F, haF, hrunF, kc⟩ : ∃ F, w5.cell? ⟨w.heap.size + 1, j, none⟩ = some (.func (.func F) #[] #[]) ∧ (∀ (args : Array Value) (w : World), (callFunc F args).run Tryd.prog w = .ok (.enter F args) w) ∧ Calls Tryd.prog F #[.pointer (some ⟨gu, 0, none⟩), .agg #[.pointer (some ⟨p.b, p.off, none⟩), .int .i64 (p.d : Int), .int .i64 (p.m : Int), .pointer (some ⟨tb, toff, none⟩)]] w5.drew (fun e w' => e = .returned (.tuple #[]) ∧ ∃ js' v', OfS Fit (fun W => DoneB (Img RV RL) B W (⟨b, off, T, 1, 0⟩, w.heap.size, 0)) (Img RV RL) w w' B gu (w.heap.size + 1) w.heap.size fv js' js' v' ∧ ¬ XB w' w.heap.size ∧ w5.drew.heap.size ≤ w'.heap.size ∧ mass js' < mass ((p, tb, toff) :: r)) := by
          match j, hj7 with
          | 0, _ => exact ⟨77, a0, enter77, k77 rfl⟩
          | 1, _ => exact ⟨78, a1, enter78, k78 (.inl rfl)⟩
          | 2, _ => exact ⟨78, a2, enter78, k78 (.inr rfl)⟩
          | 3, _ => exact ⟨79, a3, enter79, k79 ⟨by omega, by omega⟩⟩
          | 4, _ => exact ⟨79, a4, enter79, k79 ⟨by omega, by omega⟩⟩
          | 5, _ => exact ⟨79, a5, enter79, k79 ⟨by omega, by omega⟩⟩
          | 6, _ => exact ⟨79, a6, enter79, k79 ⟨by omega, by omega⟩⟩
        clear k77 k78 k79 a0 a1 a2 a3 a4 a5 a6
        have haF : w5.drew.cell? ⟨w.heap.size + 1, j, none⟩ = some (.func (.func F) #[] #[]) := haF
        go_region_law (refine step_callv (by rfl) (.tmp 56) (.tmp 57) (.tmp 58) #[108, 114] (by rfl) F hrunF (by rfl) _ _ (by rfl) (by rfl) (kc.mono ?_); rintro e w6 ⟨rfl, js6, v6, I7, hX7, hz7, hm7⟩; refine ⟨_, rfl, ?_⟩)
        all_goals
          go_wp2_with fail
          go_roundw
          case rel => exact ⟨js6, v6, I7, hX7, by have : w5.heap.size ≤ w6.heap.size := hz7; omega, by omega⟩
          case measure => exact Nat.lt_of_le_of_lt (leastOf_le ⟨js6, v6, rfl, I7⟩) (by rw [← HM.out]; exact hm7)
end Go.Proofs.YtbmijpjmdpdfkaaDoor
