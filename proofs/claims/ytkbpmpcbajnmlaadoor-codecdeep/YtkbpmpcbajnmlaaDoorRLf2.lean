/- The walks of the document's Put of no Levels, and of Copy, at levels of whatever form. No condition but that the level lies in memory and no list in it has more than 2^40 levels. -/
import Derived.Test.YtkbpmpcbajnmlaaDoorProg
import Derived.Test.YtkbpmpcbajnmlaaDoorRw
namespace Go.Proofs.YtkbpmpcbajnmlaaDoor
open Go.RowKit

theorem In.shape {w : World} {S : Nat → Prop} {L : Lv} {v : Value} (h : In w S L v) : ∃ k n a len cap, v = .agg #[.int .i64 k, .int .i64 n, .slice a len cap] := by
  obtain ⟨k, n, args⟩ := L
  obtain ⟨a, cap, h1, _⟩ := h.node
  exact ⟨k, n, a, _, cap, h1⟩

/-- A level made new. -/
def CopP (w : World) (x : Lv) (e : Ending) (w' : World) : Prop := ∃ v, e = .returned v ∧ In w' (fun b => w.heap.size ≤ b ∧ b < w'.heap.size) x v ∧ Below w.heap.size w w'

inductive Nar : Lv → Prop
  | mk {k n : Int} {args : List Lv} : args.length ≤ 1099511627776 → (∀ L ∈ args, Nar L) → Nar (.mk k n args)

/-- No list in it is too long. -/
def RC (x : Lv) : Prop := ∀ (w : World) (B : Nat) (va : Value), B ≤ w.heap.size → In w (· < B) x va → Calls Tryd.prog 75 #[va, .slice none 0 0] w (CopP w x)

/-- What an append leaves. -/
theorem grew {wr w6 w7 w8 : World} {v : Value} {base : Nat} (hb : base ≤ wr.heap.size) (hown : ∀ b, v.ownBlock = some b → base ≤ b) (h6 : Below wr.heap.size wr w6) (h7 : Below w6.heap.size w6 w7) (hg : w7.grownBy w8 v.ownBlock) : Below base wr w8 := by
  have s6 := h6.size
  have s7 := h7.size
  have s8 := hg.size
  exact ⟨hg.os.trans (h7.os.trans h6.os), hg.tape.trans (h7.tape.trans h6.tape), hg.output.trans (h7.output.trans h6.output), by omega, fun b hb' => (hg.block b (by omega) (fun e => by have := hown b e.symm; omega)).trans ((h7.block b (by omega)).trans (h6.block b (by omega)))⟩

/-- Put's loop, behind j of the args. -/
structure CL (w wr : World) (args : List Lv) (k n : Int) (a : Option Addr) (cap j : Nat) (v : Value) : Prop where
  bel : Below w.heap.size w wr
  box : Blk wr w.heap.size 27 [.int .i64 k, .int .i64 n, .slice a args.length cap]
  res : Blk wr (w.heap.size + 1) 27 [.int .i64 0, .int .i64 0, .slice none 0 0]
  out : Blk wr (w.heap.size + 1 + 1) 27 [.int .i64 k, .int .i64 n, v]
  row : LRow wr (w.heap.size + 3) 27 v (args.take j)
  sz : w.heap.size + 3 ≤ wr.heap.size

theorem CL.start (w : World) (args : List Lv) (k n : Int) (a : Option Addr) (cap : Nat) : CL w (((w.alloc (.cells #[.int .i64 k, .int .i64 n, .slice a args.length cap] 27)).alloc (.cells #[.int .i64 0, .int .i64 0, .slice none 0 0] 27)).alloc (.cells #[.int .i64 k, .int .i64 n, .slice none 0 0] 27)) args k n a cap 0 (.slice none 0 0) := by
  obtain ⟨w1, hw1, hb1, P1, Q1, R1, hs1⟩ := three_newG w [.int .i64 k, .int .i64 n, .slice a args.length cap] [.int .i64 0, .int .i64 0, .slice none 0 0] [.int .i64 k, .int .i64 n, .slice none 0 0] 27 27 27
  rw [hw1]
  exact ⟨hb1, P1, Q1, R1, LRow.nil _ _ _, by omega⟩

theorem take_more {α : Type} {l : List α} {j : Nat} {x : α} (h : l[j]? = some x) : l.take (j + 1) = l.take j ++ [x] := by
  have hlt := (List.getElem?_eq_some_iff.1 h).1
  rw [List.take_add_one, h]; rfl

theorem CL.step {w wr w6 w7 w8 : World} {args : List Lv} {k n : Int} {a : Option Addr} {cap j : Nat} {v v' v0 v1 v2 : Value} {x : Lv} {xs : List Value} (h : CL w wr args k n a cap j v) (hx : args[j]? = some x) (h6 : Below wr.heap.size wr w6) (hin : In w6 (fun b => wr.heap.size ≤ b ∧ b < w6.heap.size) x (.agg #[v0, v1, v2])) (h7 : Below w6.heap.size w6 w7)
    (hr : wr.ownsRow (w.heap.size + 3) 27 3 v j xs) (hall : ∀ i L, (args.take j)[i]? = some L → ∃ c0 c1 c2, xs[i * 3]? = some c0 ∧ xs[i * 3 + 1]? = some c1 ∧ xs[i * 3 + 2]? = some c2 ∧ In wr (fun b => w.heap.size + 3 ≤ b ∧ b < wr.heap.size ∧ v.ownBlock ≠ some b) L (.agg #[c0, c1, c2]))
    (ho : w8.ownsRow (w.heap.size + 3) 27 3 v' (j + 1) (xs ++ [v0, v1, v2])) (hg : w7.grownBy w8 v.ownBlock) (hnb : v'.ownBlock = v.ownBlock ∨ ∃ b, v'.ownBlock = some b ∧ w7.heap.size ≤ b) :
    CL w (w8.setCell ⟨w.heap.size + 1 + 1, 2, none⟩ v') args k n a cap (j + 1) v' := by
  have hlt := (List.getElem?_eq_some_iff.1 hx).1
  have hlj : (args.take j).length = j := by simp; omega
  have G := grew h.sz (fun b hb => (owns_own hr hb).1) h6 h7 hg
  have hz := G.size
  have hw8 : (w8.setCell ⟨w.heap.size + 1 + 1, 2, none⟩ v').heap.size = w8.heap.size := by simp [World.setCell]
  have hsz := h.sz
  refine ⟨?_, ?_, ?_, ?_, ?_, by omega⟩
  · exact (h.bel.trans (G.mono (by omega))).setCell (by show w.heap.size ≤ w.heap.size + 1 + 1; omega) _
  · exact (h.box.below G (by omega)).other _ (by show w.heap.size ≠ w.heap.size + 1 + 1; omega)
  · exact (h.res.below G (by omega)).other _ (by show w.heap.size + 1 ≠ w.heap.size + 1 + 1; omega)
  · exact (h.out.below G (by omega)).set 2 _
  · rw [take_more hx]
    exact (LRow.push (by rw [hlj]; exact hr) hall h.sz h6 hin h7 (by rw [hlj]; exact ho) hg hnb).carry (by omega) (fun b hb _ => Below.heap_setCell _ _ _ _ (by show b ≠ w.heap.size + 1 + 1; omega))

theorem CL.done {w wr : World} {args : List Lv} {k n : Int} {a : Option Addr} {cap : Nat} {v : Value} (h : CL w wr args k n a cap args.length v) (hk : -9223372036854775808 ≤ k ∧ k ≤ 9223372036854775807) (hn : -9223372036854775808 ≤ n ∧ n ≤ 9223372036854775807) :
    ∃ ao c, v = .slice ao args.length c ∧ In (((wr.setCell ⟨w.heap.size + 1, 0, none⟩ (.int .i64 k)).setCell ⟨w.heap.size + 1, 1, none⟩ (.int .i64 n)).setCell ⟨w.heap.size + 1, 2, none⟩ v) (fun b => w.heap.size ≤ b ∧ b < wr.heap.size) (.mk k n args) (.agg #[.int .i64 k, .int .i64 n, v]) ∧
      Below w.heap.size w (((wr.setCell ⟨w.heap.size + 1, 0, none⟩ (.int .i64 k)).setCell ⟨w.heap.size + 1, 1, none⟩ (.int .i64 n)).setCell ⟨w.heap.size + 1, 2, none⟩ v) := by
  obtain ⟨_, K7⟩ := st3G h.res (.int .i64 k) (.int .i64 n) v
  have hr := h.row
  rw [List.take_length] at hr
  obtain ⟨ao, c, rfl, hN⟩ := hr.node
  refine ⟨ao, c, rfl, ?_, h.bel.trans (K7.below (by have := h.sz; omega) (by omega))⟩
  have hN2 : Node (((wr.setCell ⟨w.heap.size + 1, 0, none⟩ (.int .i64 k)).setCell ⟨w.heap.size + 1, 1, none⟩ (.int .i64 n)).setCell ⟨w.heap.size + 1, 2, none⟩ (.slice ao args.length c)) (fun b => w.heap.size ≤ b ∧ b < wr.heap.size) 0 0 args ao c :=
    hN.carry (fun b hb => K7.block b hb.2 (by omega)) (fun b hb => ⟨by omega, hb.2⟩)
  rw [in_mk]
  exact ⟨ao, c, rfl, hk, hn, hN2.le, hN2.max, hN2.all⟩

theorem info65 : ∃ i, Tryd.prog.info? 27 = some i ∧ i.zero = some (.agg #[.int .i64 0, .int .i64 0, .slice none 0 0]) ∧ i.size = 3 ∧ i.bytes = 40 := by
  have h : (Tryd.prog.info? 27).map (fun i => (i.zero, i.size, i.bytes)) = some (some (.agg #[.int .i64 0, .int .i64 0, .slice none 0 0]), 3, 40) := by kernel_rfl
  obtain ⟨i, hi, he⟩ := Option.map_eq_some_iff.1 h
  simp only [Prod.mk.injEq] at he
  exact ⟨i, hi, he⟩

theorem enter75 (args : Array Value) (w : World) : (callFunc 75 args).run Tryd.prog w = .ok (.enter 75 args) w := enter_of Tryd.func75 (by kernel_rfl) rfl args w

theorem LRow.slice {w : World} {base : Nat} {e : TypeId} {v : Value} {ls : List Lv} (h : LRow w base e v ls) : ∃ a c, v = .slice a ls.length c := by
  obtain ⟨a, c, h, _⟩ := h.node
  exact ⟨a, c, h⟩

theorem cell_grown {wr w8 : World} {base : Nat} (G : Below base wr w8) (b o : Nat) (hb : b < base) : w8.cell? ⟨b, o, none⟩ = wr.cell? ⟨b, o, none⟩ := World.cell?_of_block (w := wr) (G.block b hb)

theorem bcell' {W w1 : World} {B : Nat} (hb : Below B W w1) : ∀ b o, b < B → w1.cell? ⟨b, o, none⟩ = W.cell? ⟨b, o, none⟩ := fun b o h => hb.cell (p := ⟨b, o, none⟩) h

set_option maxRecDepth 100000 in
set_option maxHeartbeats 2000000 in
theorem rc_node (k n : Int) (args : List Lv) (hl2 : args.length ≤ 1099511627776) (ih : ∀ x ∈ args, RC x) : RC (.mk k n args) := by
  intro w B va hB hin
  obtain ⟨a, cap, rfl, hN⟩ := hin.node
  have hle := hN.le
  have hmx := hN.max
  have k0 := hN.k0
  have k1 := hN.k1
  have n0 := hN.n0
  have n1 := hN.n1
  obtain ⟨i24, hi24, hz24, hs24, hb24⟩ := info65
  have R0 := CL.start w args k n a cap
  have ways : (k == 4) = false ∨ (k == 4) = true ∧ decide (0 ≤ n) = false ∨ (k == 4) = true ∧ decide (0 ≤ n) = true ∧ decide (n < 0) = false := by
    by_cases h4 : k = 4
    · by_cases h0 : 0 ≤ n
      · exact .inr (.inr ⟨by simp [h4], by simp [h0], decide_eq_false (by omega)⟩)
      · exact .inr (.inl ⟨by simp [h4], decide_eq_false h0⟩)
    · exact .inl (by simp [h4])
  go_enter Tryd.func75, Tryd.ntmps75
  rcases ways with e4 | ⟨e4, e0⟩ | ⟨e4, e0, e1⟩
  all_goals
    go_wp2_with fail
    go_loopw [6] (fun i wr => ∃ (j : Nat) (v : Value), i = .int .i64 (j : Int) ∧ j ≤ args.length ∧ CL w wr args k n a cap j v) (fun i _ => args.length - (intOf i).toNat)
    case atStart => exact ⟨0, _, rfl, by omega, R0⟩
    case round =>
      clear R0
      obtain ⟨j, v, rfl, hj, hP⟩ := hrel
      have hsz := hP.sz
      have b2 := hP.box.cell (j := 2) rfl
      obtain ⟨ao, capo, hv⟩ := hP.row.slice
      rw [show (args.take j).length = j by simp; omega] at hv
      subst hv
      by_cases hlt : j < args.length
      · obtain ⟨x, hx⟩ : ∃ L, args[j]? = some L := ⟨_, List.getElem?_eq_getElem hlt⟩
        obtain ⟨b, off, kx, nx, args1, a1, cap1, rfl, hS, rfl, x0, x1, x2, M1⟩ := (hN.below hP.bel hB).get hx
        have HX : Hid (args[j]? = some (.mk kx nx args1)) := hx
        clear hx
        have o2 := hP.out.cell (j := 2) rfl
        have hcall := ih _ (List.mem_of_getElem? HX.out) wr.drew B _ (show B ≤ wr.heap.size by omega) (M1.carry (w' := wr.drew) (fun _ _ => rfl) (fun _ h => h)).is
        obtain ⟨xs, hown, hall⟩ := hP.row.row
        rw [show (args.take j).length = j by simp; omega] at hown
        have hob : ∀ b, (Value.slice ao j capo).ownBlock = some b → w.heap.size + 3 ≤ b := fun g hg => (owns_own hown hg).1
        have HO : Hid (wr.ownsRow (w.heap.size + 3) 27 3 (.slice ao j capo) j xs) := hown
        clear hown hin
        go_wp2_with fail
        go_region_law (first
          | (refine step_call (by rfl) 75 enter75 (.tmp 46) (.tmp 47) #[27, 25] (by rfl) _ _ (by rfl) (by rfl) (hcall.mono ?_); rintro e w6 ⟨v, rfl, hi6, hb6⟩; obtain ⟨kv, nv, av, lv, cv, rfl⟩ := hi6.shape; refine ⟨_, rfl, ?_⟩; obtain ⟨w7, hw7, hb7, X7, hs7⟩ := one_newG w6 [.int .i64 kv, .int .i64 nv, .slice av lv cv] 27; have hz6 : wr.heap.size ≤ w6.heap.size := hb6.size; have g1 := (bcell' hb6 _ _ (show w.heap.size < wr.heap.size by omega)).trans b2; have g2 := (bcell' hb6 _ _ (show b < wr.heap.size by omega)).trans x0; have g3 := (bcell' hb6 _ _ (show b < wr.heap.size by omega)).trans x1; have g4 := (bcell' hb6 _ _ (show b < wr.heap.size by omega)).trans x2; have g5 := (bcell' hb6 _ _ (show w.heap.size + 1 + 1 < wr.heap.size by omega)).trans o2; have j1 := (bcell' hb7 _ _ (show w.heap.size < w6.heap.size by omega)).trans g1; have j2 := (bcell' hb7 _ _ (show b < w6.heap.size by omega)).trans g2; have j3 := (bcell' hb7 _ _ (show b < w6.heap.size by omega)).trans g3; have j4 := (bcell' hb7 _ _ (show b < w6.heap.size by omega)).trans g4; have j5 := (bcell' hb7 _ _ (show w.heap.size + 1 + 1 < w6.heap.size by omega)).trans g5)
          | (refine step_append_own (by rfl) (.tmp 41) (.tmp 49) 25 (by rfl) (w.heap.size + 3) 27 i24 _ 3 40 Tryd.underlying25 hi24 hz24 hs24 hb24 (by rfl) (by decide) (.slice ao j capo) j xs (by rfl) (owns_below (owns_below (w := wr.drew) HO.out hb6) hb7) ⟨w6.heap.size, 0, none⟩ 1 1 [.int .i64 kv, .int .i64 nv, .slice av lv cv] (by rfl) (by rfl) (fun i u hu => by rw [Addr.add_lit, Nat.zero_add]; exact X7.cell hu) (by simp [Value.oneCell']) (by unfold maxLen; omega) (by omega) (by omega) (by decide) ?_; intro v' w8 ho8 hg8 hn8; obtain ⟨g', c', rfl, hg'1, hg'2, hg'3, hg'4⟩ := owns_shape ho8 (by omega); have G := grew (base := w.heap.size + 3) hsz hob (Below.trans (Below.refl _ _).drew hb6) hb7 hg8; have hz8 := G.size; have l1 := (cell_grown G w.heap.size 2 (by omega)).trans b2; have l2 := (cell_grown G b (off + j * 3) (by omega)).trans x0; have l3 := (cell_grown G b (off + j * 3 + 1) (by omega)).trans x1; have l4 := (cell_grown G b (off + j * 3 + 2) (by omega)).trans x2; have l5 := (cell_grown G (w.heap.size + 1 + 1) 2 (by omega)).trans o2; have l6 := (hP.out.below G (by omega)).frozen 2; have l7 : w.heap.size + 1 + 1 ≠ w.heap.size := (by omega); have l8 : w.heap.size + 1 + 1 ≠ b := (by omega)))
        all_goals
          go_wp2_with fail
          go_roundw
          case rel => exact ⟨j + 1, _, by go_num, by omega, hP.step HX.out (Below.trans (Below.refl _ _).drew hb6) hi6 hb7 HO.out hall ho8 hg8 hn8⟩
          case measure => simp [intOf]; omega
      · obtain rfl : j = args.length := by omega
        obtain ⟨ao', c', hv', hD1, hD2⟩ := hP.done ⟨by omega, by omega⟩ ⟨by omega, by omega⟩
        have o0 := hP.out.cell (j := 0) rfl
        have o1 := hP.out.cell (j := 1) rfl
        have o2 := hP.out.cell (j := 2) rfl
        have q0 := hP.res.cell (j := 0) rfl
        have q1 := hP.res.cell (j := 1) rfl
        have q2 := hP.res.cell (j := 2) rfl
        have f0 := hP.res.frozen 0
        have f1 := hP.res.frozen 1
        have f2 := hP.res.frozen 2
        obtain ⟨Q3, _⟩ := st3G hP.res (.int .i64 k) (.int .i64 n) (.slice ao args.length capo)
        have c0 := Q3.cell (j := 0) rfl
        have c1 := Q3.cell (j := 1) rfl
        have c2 := Q3.cell (j := 2) rfl
        clear hv' hin
        go_wp2_with fail
        refine bodyPost_ret (v := .agg #[.int .i64 k, .int .i64 n, .slice ao args.length capo]) (by simp [results, Tryd.results75, go_sem, c0, c1, c2]) rfl ⟨_, rfl, ?_, hD2⟩
        exact hD1.mono (fun b hb => ⟨hb.1, by simp [World.setCell]; exact hb.2⟩)

end Go.Proofs.YtkbpmpcbajnmlaaDoor

/- The walks of the document's Copy of a level, and of leaf. No condition but that what was given lies in memory and no list in it has more than 2^40 levels. -/
namespace Go.Proofs.YtkbpmpcbajnmlaaDoor
open Go.RowKit

theorem rc_any (x : Lv) (h : Nar x) : RC x := by
  induction h with
  | mk h1 _ ih => exact rc_node _ _ _ h1 ih

set_option maxRecDepth 100000 in
set_option maxHeartbeats 400000 in
theorem lcopy_any (x : Lv) (hx : Nar x) (w : World) (B : Nat) (va : Value) (hB : B ≤ w.heap.size) (hin : In w (· < B) x va) : Calls Tryd.prog 43 #[va] w (CopP w x) := by
  have hr := rc_any x hx
  clear hx
  obtain ⟨k, n, args⟩ := x
  obtain ⟨a, cap, rfl, hN⟩ := hin.node
  obtain ⟨w1, hw1, hb1, P1, Q1, hs1⟩ := two_newG w [.int .i64 k, .int .i64 n, .slice a args.length cap] [.int .i64 0, .int .i64 0, .slice none 0 0] 27 27
  have p0 := P1.cell (j := 0) rfl
  have p1 := P1.cell (j := 1) rfl
  have p2 := P1.cell (j := 2) rfl
  have hc := hr w1 B _ (by omega) (hin.below hb1 hB)
  clear hr hin
  go_enter Tryd.func43, Tryd.ntmps43
  go_wp2_with (go_at_call 75; go_must (refine hc.mono ?_); rintro e w2 ⟨v, rfl, hi, hb2⟩; obtain ⟨kv, nv, av, lv, cv, rfl⟩ := hi.shape; have Q2 := Q1.below hb2 Q1.lt; have q0 := Q2.cell (j := 0) rfl; have q1 := Q2.cell (j := 1) rfl; have q2 := Q2.cell (j := 2) rfl; have f0 := Q2.frozen 0; have f1 := Q2.frozen 1; have f2 := Q2.frozen 2)
  obtain ⟨Q3, K3⟩ := st3G Q2 (.int .i64 kv) (.int .i64 nv) (.slice av lv cv)
  have c0 := Q3.cell (j := 0) rfl
  have c1 := Q3.cell (j := 1) rfl
  have c2 := Q3.cell (j := 2) rfl
  have hz2 := hb2.size
  have hz3 := K3.size
  refine bodyPost_ret (v := .agg #[.int .i64 kv, .int .i64 nv, .slice av lv cv]) (by simp [results, Tryd.results43, go_sem, c0, c1, c2]) rfl ⟨_, rfl, ?_, ?_⟩
  · exact In.carry (fun b hb => K3.block b hb.2 (by omega)) (fun b hb => ⟨by omega, by omega⟩) _ _ hi
  · exact (hb1.trans (hb2.mono (by omega))).trans (K3.below (by omega) (by omega))

/-- A call of a Go function of one argument, in a region that draws its order. -/
theorem step_call1G {P : Program} {ops : Array Oper} {o : Oper} {a : Act} {w : World} {K : Act → World → Prop} {Q : Exit → Act → World → Prop} {E : Prop}
    (hg : o.guard = none) (f : FuncId) (hrun : ∀ (args : Array Value) (w : World), (callFunc f args).run P w = .ok (.enter f args) w) (x : Operand) (ts : Array TypeId) (hop : o.op = Op.call { callee := Callee.value (Operand.func f), args := #[x], argTypes := ts })
    (u : Value) (hx : a.eval x = u) (h : Calls P f #[u] w fun e w' => ∃ r, e = .returned r ∧ K (a.put o.dst r) w') :
    if Region.wanted o (yielded ops a.tmps) = true then Oper.wp P o a w K Q else E := by
  have hw : Region.wanted o (yielded ops a.tmps) = true := by simp [Region.wanted, hg]
  rw [if_pos hw]
  subst hx
  unfold Oper.wp
  have he : (execOp a.eval o).run P w = .ok (.enter f #[a.eval x]) w := by
    have := hrun #[a.eval x] w
    simpa [go_sem, execOp, hop] using this
  rw [he]
  refine h.mono ?_
  rintro e w' ⟨r, rfl, hr⟩
  exact hr

theorem enter43 (args : Array Value) (w : World) : (callFunc 43 args).run Tryd.prog w = .ok (.enter 43 args) w := enter_of Tryd.func43 (by kernel_rfl) rfl args w

/-- leaf's loop, behind j of the Levels. -/
structure LL (w wr : World) (T : Tr) (j : Nat) (v : Value) : Prop where
  bel : Below w.heap.size w wr
  box : Blk wr w.heap.size 33 [.int .i64 T.k, .int .i64 T.n, .string T.s, .slice T.la T.ls.length T.lc, .slice T.a T.args.length T.c]
  res : Blk wr (w.heap.size + 1) 33 [.int .i64 0, .int .i64 0, .string { data := #[] }, .slice none 0 0, .slice none 0 0]
  out : Blk wr (w.heap.size + 1 + 1) 33 [.int .i64 T.k, .int .i64 T.n, .string T.s, v, .slice none 0 0]
  row : LRow wr (w.heap.size + 3) 27 v (T.ls.take j)
  sz : w.heap.size + 3 ≤ wr.heap.size

theorem LL.start (w : World) (T : Tr) : LL w (((w.alloc (.cells #[.int .i64 T.k, .int .i64 T.n, .string T.s, .slice T.la T.ls.length T.lc, .slice T.a T.args.length T.c] 33)).alloc (.cells #[.int .i64 0, .int .i64 0, .string { data := #[] }, .slice none 0 0, .slice none 0 0] 33)).alloc (.cells #[.int .i64 T.k, .int .i64 T.n, .string T.s, .slice none 0 0, .slice none 0 0] 33)) T 0 (.slice none 0 0) := by
  obtain ⟨w1, hw1, hb1, P1, Q1, R1, hs1⟩ := three_newG w [.int .i64 T.k, .int .i64 T.n, .string T.s, .slice T.la T.ls.length T.lc, .slice T.a T.args.length T.c] [.int .i64 0, .int .i64 0, .string { data := #[] }, .slice none 0 0, .slice none 0 0] [.int .i64 T.k, .int .i64 T.n, .string T.s, .slice none 0 0, .slice none 0 0] 33 33 33
  rw [hw1]
  exact ⟨hb1, P1, Q1, R1, LRow.nil _ _ _, by omega⟩

theorem LL.step {w wr w6 w7 w8 : World} {T : Tr} {j : Nat} {v v' v0 v1 v2 : Value} {x : Lv} {xs : List Value} (h : LL w wr T j v) (hx : T.ls[j]? = some x) (h6 : Below wr.heap.size wr w6) (hin : In w6 (fun b => wr.heap.size ≤ b ∧ b < w6.heap.size) x (.agg #[v0, v1, v2])) (h7 : Below w6.heap.size w6 w7)
    (hr : wr.ownsRow (w.heap.size + 3) 27 3 v j xs) (hall : ∀ i L, (T.ls.take j)[i]? = some L → ∃ c0 c1 c2, xs[i * 3]? = some c0 ∧ xs[i * 3 + 1]? = some c1 ∧ xs[i * 3 + 2]? = some c2 ∧ In wr (fun b => w.heap.size + 3 ≤ b ∧ b < wr.heap.size ∧ v.ownBlock ≠ some b) L (.agg #[c0, c1, c2]))
    (ho : w8.ownsRow (w.heap.size + 3) 27 3 v' (j + 1) (xs ++ [v0, v1, v2])) (hg : w7.grownBy w8 v.ownBlock) (hnb : v'.ownBlock = v.ownBlock ∨ ∃ b, v'.ownBlock = some b ∧ w7.heap.size ≤ b) :
    LL w (w8.setCell ⟨w.heap.size + 1 + 1, 3, none⟩ v') T (j + 1) v' := by
  have hlt := (List.getElem?_eq_some_iff.1 hx).1
  have hlj : (T.ls.take j).length = j := by simp; omega
  have G := grew h.sz (fun b hb => (owns_own hr hb).1) h6 h7 hg
  have hz := G.size
  have hw8 : (w8.setCell ⟨w.heap.size + 1 + 1, 3, none⟩ v').heap.size = w8.heap.size := by simp [World.setCell]
  have hsz := h.sz
  refine ⟨?_, ?_, ?_, ?_, ?_, by omega⟩
  · exact (h.bel.trans (G.mono (by omega))).setCell (by show w.heap.size ≤ w.heap.size + 1 + 1; omega) _
  · exact (h.box.below G (by omega)).other _ (by show w.heap.size ≠ w.heap.size + 1 + 1; omega)
  · exact (h.res.below G (by omega)).other _ (by show w.heap.size + 1 ≠ w.heap.size + 1 + 1; omega)
  · exact (h.out.below G (by omega)).set 3 _
  · rw [take_more hx]
    exact (LRow.push (by rw [hlj]; exact hr) hall h.sz h6 hin h7 (by rw [hlj]; exact ho) hg hnb).carry (by omega) (fun b hb _ => Below.heap_setCell _ _ _ _ (by show b ≠ w.heap.size + 1 + 1; omega))

/-- A part without its Args, made new. -/
def LeafP (w : World) (T : Tr) (e : Ending) (w' : World) : Prop := ∃ la lc, e = .returned (.agg #[.int .i64 T.k, .int .i64 T.n, .string T.s, .slice la T.ls.length lc, .slice none 0 0]) ∧ Node w' (fun b => w.heap.size ≤ b ∧ b < w'.heap.size) 0 0 T.ls la lc ∧ Below w.heap.size w w'

set_option maxRecDepth 100000 in
set_option maxHeartbeats 2000000 in
theorem leaf_any (T : Tr) (hl2 : T.ls.length ≤ 1099511627776) (hnar : ∀ x ∈ T.ls, Nar x) (w : World) (B : Nat) (hB : B ≤ w.heap.size) (hin : TIn w (· < B) T) : Calls Tryd.prog 89 #[T.val] w (LeafP w T) := by
  have hT := tin_iff.1 hin
  have hN := hT.lv
  have hle := hN.le
  have hmx := hN.max
  obtain ⟨i24, hi24, hz24, hs24, hb24⟩ := info65
  have R0 := LL.start w T
  unfold Tr.val
  clear hin
  go_enter Tryd.func89, Tryd.ntmps89
  go_wp2_with fail
  go_loopw [4] (fun i wr => ∃ (j : Nat) (v : Value), i = .int .i64 (j : Int) ∧ j ≤ T.ls.length ∧ LL w wr T j v) (fun i _ => T.ls.length - (intOf i).toNat)
  case atStart => exact ⟨0, _, rfl, by omega, R0⟩
  case round =>
    clear R0
    obtain ⟨j, v, rfl, hj, hP⟩ := hrel
    have hsz := hP.sz
    have b3 := hP.box.cell (j := 3) rfl
    obtain ⟨ao, capo, hv⟩ := hP.row.slice
    rw [show (T.ls.take j).length = j by simp; omega] at hv
    subst hv
    by_cases hlt : j < T.ls.length
    · obtain ⟨x, hx⟩ : ∃ L, T.ls[j]? = some L := ⟨_, List.getElem?_eq_getElem hlt⟩
      obtain ⟨b, off, kx, nx, args1, a1, cap1, hla, hS, rfl, x0, x1, x2, M1⟩ := (hN.below hP.bel hB).get hx
      rw [hla] at b3
      have HX : Hid (T.ls[j]? = some (.mk kx nx args1)) := hx
      have hnx := hnar _ (List.mem_of_getElem? hx)
      clear hx hla
      have o3 := hP.out.cell (j := 3) rfl
      have hcall := lcopy_any _ hnx wr.drew B _ (show B ≤ wr.heap.size by omega) (M1.carry (w' := wr.drew) (fun _ _ => rfl) (fun _ h => h)).is
      obtain ⟨xs, hown, hall⟩ := hP.row.row
      rw [show (T.ls.take j).length = j by simp; omega] at hown
      have hob : ∀ b, (Value.slice ao j capo).ownBlock = some b → w.heap.size + 3 ≤ b := fun g hg => (owns_own hown hg).1
      have HO : Hid (wr.ownsRow (w.heap.size + 3) 27 3 (.slice ao j capo) j xs) := hown
      clear hown
      go_wp2_with fail
      go_region_law (first
        | (refine step_call1G (by rfl) 43 enter43 (.tmp 25) #[27] (by rfl) _ (by rfl) (hcall.mono ?_); rintro e w6 ⟨v, rfl, hi6, hb6⟩; obtain ⟨kv, nv, av, lv, cv, rfl⟩ := hi6.shape; refine ⟨_, rfl, ?_⟩; obtain ⟨w7, hw7, hb7, X7, hs7⟩ := one_newG w6 [.int .i64 kv, .int .i64 nv, .slice av lv cv] 27; have hz6 : wr.heap.size ≤ w6.heap.size := hb6.size; have g1 := (bcell' hb6 _ _ (show w.heap.size < wr.heap.size by omega)).trans b3; have g2 := (bcell' hb6 _ _ (show b < wr.heap.size by omega)).trans x0; have g3 := (bcell' hb6 _ _ (show b < wr.heap.size by omega)).trans x1; have g4 := (bcell' hb6 _ _ (show b < wr.heap.size by omega)).trans x2; have g5 := (bcell' hb6 _ _ (show w.heap.size + 1 + 1 < wr.heap.size by omega)).trans o3; have j1 := (bcell' hb7 _ _ (show w.heap.size < w6.heap.size by omega)).trans g1; have j2 := (bcell' hb7 _ _ (show b < w6.heap.size by omega)).trans g2; have j3 := (bcell' hb7 _ _ (show b < w6.heap.size by omega)).trans g3; have j4 := (bcell' hb7 _ _ (show b < w6.heap.size by omega)).trans g4; have j5 := (bcell' hb7 _ _ (show w.heap.size + 1 + 1 < w6.heap.size by omega)).trans g5)
        | (refine step_append_own (by rfl) (.tmp 20) (.tmp 27) 25 (by rfl) (w.heap.size + 3) 27 i24 _ 3 40 Tryd.underlying25 hi24 hz24 hs24 hb24 (by rfl) (by decide) (.slice ao j capo) j xs (by rfl) (owns_below (owns_below (w := wr.drew) HO.out hb6) hb7) ⟨w6.heap.size, 0, none⟩ 1 1 [.int .i64 kv, .int .i64 nv, .slice av lv cv] (by rfl) (by rfl) (fun i u hu => by rw [Addr.add_lit, Nat.zero_add]; exact X7.cell hu) (by simp [Value.oneCell']) (by unfold maxLen; omega) (by omega) (by omega) (by decide) ?_; intro v' w8 ho8 hg8 hn8; obtain ⟨g', c', rfl, hg'1, hg'2, hg'3, hg'4⟩ := owns_shape ho8 (by omega); have G := grew (base := w.heap.size + 3) hsz hob (Below.trans (Below.refl _ _).drew hb6) hb7 hg8; have hz8 := G.size; have l1 := (cell_grown G w.heap.size 3 (by omega)).trans b3; have l2 := (cell_grown G b (off + j * 3) (by omega)).trans x0; have l3 := (cell_grown G b (off + j * 3 + 1) (by omega)).trans x1; have l4 := (cell_grown G b (off + j * 3 + 2) (by omega)).trans x2; have l5 := (cell_grown G (w.heap.size + 1 + 1) 3 (by omega)).trans o3; have l6 := (hP.out.below G (by omega)).frozen 3; have l7 : w.heap.size + 1 + 1 ≠ w.heap.size := (by omega); have l8 : w.heap.size + 1 + 1 ≠ b := (by omega)))
      all_goals
        go_wp2_with fail
        go_roundw
        case rel => exact ⟨j + 1, _, by go_num, by omega, hP.step HX.out (Below.trans (Below.refl _ _).drew hb6) hi6 hb7 HO.out hall ho8 hg8 hn8⟩
        case measure => simp [intOf]; omega
    · obtain rfl : j = T.ls.length := by omega
      have hrow := hP.row
      rw [List.take_length] at hrow
      obtain ⟨ao', c', hv', hNr⟩ := hrow.node
      obtain ⟨rfl, rfl⟩ : ao = ao' ∧ capo = c' := by simpa using hv'
      have o0 := hP.out.cell (j := 0) rfl
      have o1 := hP.out.cell (j := 1) rfl
      have o2 := hP.out.cell (j := 2) rfl
      have o3 := hP.out.cell (j := 3) rfl
      have o4 := hP.out.cell (j := 4) rfl
      have q0 := hP.res.cell (j := 0) rfl
      have q1 := hP.res.cell (j := 1) rfl
      have q2 := hP.res.cell (j := 2) rfl
      have q3 := hP.res.cell (j := 3) rfl
      have q4 := hP.res.cell (j := 4) rfl
      have f0 := hP.res.frozen 0
      have f1 := hP.res.frozen 1
      have f2 := hP.res.frozen 2
      have f3 := hP.res.frozen 3
      have f4 := hP.res.frozen 4
      obtain ⟨Q3, K3⟩ := st5G hP.res (.int .i64 T.k) (.int .i64 T.n) (.string T.s) (.slice ao T.ls.length capo) (.slice none 0 0)
      have c0 := Q3.cell (j := 0) rfl
      have c1 := Q3.cell (j := 1) rfl
      have c2 := Q3.cell (j := 2) rfl
      have c3 := Q3.cell (j := 3) rfl
      have c4 := Q3.cell (j := 4) rfl
      have hz3 := K3.size
      clear hv'
      go_wp2_with fail
      refine bodyPost_ret (v := .agg #[.int .i64 T.k, .int .i64 T.n, .string T.s, .slice ao T.ls.length capo, .slice none 0 0]) (by simp [results, Tryd.results89, go_sem, c0, c1, c2, c3, c4]) rfl ⟨_, _, rfl, ?_, ?_⟩
      · exact hNr.carry (fun b hb => K3.block b hb.2 (by omega)) (fun b hb => ⟨by omega, by omega⟩)
      · exact hP.bel.trans (K3.below (by omega) (by omega))

end Go.Proofs.YtkbpmpcbajnmlaaDoor

/- The walks of the document's Binds, lift and Copy. No condition but that the term lies in memory, that no list in it is longer than 2^40, and that its numbers have room. -/
namespace Go.Proofs.YtkbpmpcbajnmlaaDoor
open Go.RowKit

set_option maxRecDepth 100000 in
theorem rbinds_anyG (k : Int) (i : Nat) (w : World) : Calls Tryd.prog 90 #[.int .i64 k, .int .i64 (i : Int)] w fun e w' => e = .returned (.int .i64 ((bnd k i : Nat) : Int)) ∧ w = w' := by
  obtain ⟨r, HR⟩ : ∃ r, Hid (((bnd k i : Nat) : Int) = r) := ⟨_, rfl⟩
  rw [HR.out]
  by_cases h4 : k = 4
  · subst h4
    by_cases h1 : i = 1
    · subst h1
      go_enter Tryd.func90, Tryd.ntmps90
      go_wp2
      go_ret
      exact ⟨ret_int (by rw [← HR.out]; rfl), rfl⟩
    · have hi : ((i : Int) == 1) = false := by simp; omega
      go_enter Tryd.func90, Tryd.ntmps90
      go_wp2
      go_ret
      exact ⟨ret_int (by rw [← HR.out]; unfold bnd; rw [if_neg (by omega)]; rfl), rfl⟩
  by_cases h5 : k = 5
  · subst h5
    by_cases h1 : i = 1
    · subst h1
      go_enter Tryd.func90, Tryd.ntmps90
      go_wp2
      go_ret
      exact ⟨ret_int (by rw [← HR.out]; rfl), rfl⟩
    · have hi : ((i : Int) == 1) = false := by simp; omega
      go_enter Tryd.func90, Tryd.ntmps90
      go_wp2
      go_ret
      exact ⟨ret_int (by rw [← HR.out]; unfold bnd; rw [if_neg (by omega)]; rfl), rfl⟩
  by_cases h6 : k = 6
  · subst h6
    by_cases h1 : i = 2
    · subst h1
      go_enter Tryd.func90, Tryd.ntmps90
      go_wp2
      go_ret
      exact ⟨ret_int (by rw [← HR.out]; rfl), rfl⟩
    · have hi : ((i : Int) == 2) = false := by simp; omega
      go_enter Tryd.func90, Tryd.ntmps90
      go_wp2
      go_ret
      exact ⟨ret_int (by rw [← HR.out]; unfold bnd; rw [if_neg (by omega)]; rfl), rfl⟩
  have k4 : (k == 4) = false := by simpa using h4
  have k5 : (k == 5) = false := by simpa using h5
  have k6 : (k == 6) = false := by simpa using h6
  go_enter Tryd.func90, Tryd.ntmps90
  go_wp2
  go_ret
  exact ⟨ret_int (by rw [← HR.out]; unfold bnd; rw [if_neg (by omega)]; rfl), rfl⟩

inductive RLift (by_ : Int) : Int → Tr → Tr → Prop
  | mk {from_ : Int} {T U : Tr} : U.k = T.k → U.n = (if T.k = 0 ∧ from_ ≤ T.n then T.n + by_ else T.n) → U.s = T.s → U.ls = T.ls → U.args.length = T.args.length → (∀ (i : Nat) (A A' : Tr), T.args[i]? = some A → U.args[i]? = some A' → RLift by_ (from_ + bnd T.k i) A A') → RLift by_ from_ T U
inductive LfOk (by_ : Int) : Tr → Prop
  | mk {T : Tr} : T.ls.length ≤ 1099511627776 → (∀ x ∈ T.ls, Nar x) → T.args.length ≤ 1099511627776 → (T.k = 0 → T.n + by_ ≤ 9223372036854775807) → (∀ L ∈ T.args, LfOk by_ L) → LfOk by_ T

/-- A term made new. -/
def LiftP (by_ from_ : Int) (w : World) (T : Tr) (e : Ending) (w' : World) : Prop := ∃ U, e = .returned (Tr.val U) ∧ TIn w' (fun b => w.heap.size ≤ b ∧ b < w'.heap.size) U ∧ RLift by_ from_ T U ∧ Below w.heap.size w w'

def LiftAt (by_ : Int) (T : Tr) : Prop := ∀ (from_ : Int) (w : World) (B : Nat), 0 ≤ from_ → from_ + T.size ≤ 9223372036854775807 → B ≤ w.heap.size → TIn w (· < B) T → Calls Tryd.prog 74 #[T.val, .int .i64 by_, .int .i64 from_] w (LiftP by_ from_ w T)

/-- lift's loop, behind those args of which us were made. -/
structure FL (by_ from_ : Int) (w wr : World) (T : Tr) (g : Nat) (nn : Int) (la : Option Addr) (lc : Nat) (v : Value) (us : List Tr) : Prop where
  bel : Below w.heap.size w wr
  box : Blk wr w.heap.size 33 [.int .i64 T.k, .int .i64 T.n, .string T.s, .slice T.la T.ls.length T.lc, .slice T.a T.args.length T.c]
  res : Blk wr (w.heap.size + 1) 33 [.int .i64 0, .int .i64 0, .string { data := #[] }, .slice none 0 0, .slice none 0 0]
  out : Blk wr g 33 [.int .i64 T.k, .int .i64 nn, .string T.s, .slice la T.ls.length lc, v]
  lv : Node wr (fun b => w.heap.size + 2 ≤ b ∧ b < g) 0 0 T.ls la lc
  row : TRow wr (g + 1) 33 v us
  im : ∀ (i : Nat) (A A' : Tr), T.args[i]? = some A → us[i]? = some A' → RLift by_ (from_ + bnd T.k i) A A'
  lo : w.heap.size + 2 ≤ g
  sz : g + 1 ≤ wr.heap.size

theorem FL.step {by_ from_ : Int} {w wr w6 w7 w8 : World} {T : Tr} {g : Nat} {nn : Int} {la : Option Addr} {lc : Nat} {v v' : Value} {us : List Tr} {x U : Tr} (h : FL by_ from_ w wr T g nn la lc v us) (hx : T.args[us.length]? = some x) (h6 : Below wr.heap.size wr w6) (hin : TIn w6 (fun b => wr.heap.size ≤ b ∧ b < w6.heap.size) U) (h7 : Below w6.heap.size w6 w7)
    (ho : w8.ownsRow (g + 1) 33 5 v' (us.length + 1) (trCells us ++ U.cells)) (hg : w7.grownBy w8 v.ownBlock) (hnb : v'.ownBlock = v.ownBlock ∨ ∃ b, v'.ownBlock = some b ∧ w7.heap.size ≤ b) (hU : RLift by_ (from_ + bnd T.k us.length) x U) :
    FL by_ from_ w (w8.setCell ⟨g, 4, none⟩ v') T g nn la lc v' (us ++ [U]) := by
  have G := grew h.sz (fun b hb => (owns_own h.row.row hb).1) h6 h7 hg
  have hz := G.size
  have hw8 : (w8.setCell ⟨g, 4, none⟩ v').heap.size = w8.heap.size := by simp [World.setCell]
  have hsz := h.sz
  have hlo := h.lo
  refine ⟨?_, ?_, ?_, ?_, ?_, ?_, ?_, hlo, by omega⟩
  · exact (h.bel.trans (G.mono (by omega))).setCell (by show w.heap.size ≤ g; omega) _
  · exact (h.box.below G (by omega)).other _ (by show w.heap.size ≠ g; omega)
  · exact (h.res.below G (by omega)).other _ (by show w.heap.size + 1 ≠ g; omega)
  · exact (h.out.below G (by omega)).set 4 _
  · exact h.lv.carry (fun b hb => (Below.heap_setCell _ _ _ _ (by show b ≠ g; omega)).trans (G.block b (by omega))) (fun _ hb => hb)
  · exact (h.row.push h.sz h6 hin h7 ho hg hnb).carry (by omega) (fun b hb _ => Below.heap_setCell _ _ _ _ (by show b ≠ g; omega))
  · intro i A A' hA hA'
    by_cases hlt : i < us.length
    · rw [List.getElem?_append_left hlt] at hA'
      exact h.im i A A' hA hA'
    · rw [List.getElem?_append_right (by omega)] at hA'
      have hi : i - us.length = 0 := by have := (List.getElem?_eq_some_iff.1 hA').1; simp at this; omega
      rw [hi] at hA'
      obtain rfl : i = us.length := by omega
      rw [hx] at hA
      simp at hA hA'
      subst hA hA'
      exact hU

/-- The end: the term that is told. -/
theorem FL.done {by_ from_ : Int} {w wr w' : World} {T : Tr} {g : Nat} {nn : Int} {la : Option Addr} {lc : Nat} {v : Value} {us : List Tr} (h : FL by_ from_ w wr T g nn la lc v us) (hl : us.length = T.args.length) (hk : -9223372036854775808 ≤ T.k ∧ T.k ≤ 9223372036854775807) (hn : -9223372036854775808 ≤ nn ∧ nn ≤ 9223372036854775807) (hnn : nn = if T.k = 0 ∧ from_ ≤ T.n then T.n + by_ else T.n)
    (K : Keep wr w' (· = w.heap.size + 1)) : ∃ U : Tr, U.val = .agg #[.int .i64 T.k, .int .i64 nn, .string T.s, .slice la T.ls.length lc, v] ∧ TIn w' (fun b => w.heap.size ≤ b ∧ b < w'.heap.size) U ∧ RLift by_ from_ T U ∧ Below w.heap.size w w' := by
  have hz := K.size
  have hlo := h.lo
  have hsz := h.sz
  obtain ⟨a, c, b, rfl, h1, h2, h3⟩ := h.row.args
  refine ⟨.mk T.k nn T.s T.ls la lc a c b 0 us, rfl, tin_iff.2 ⟨hk.1, hk.2, hn.1, hn.2, ?_, h1, h2, ?_⟩, ?_, h.bel.trans (K.below (by omega) (by omega))⟩
  · exact h.lv.carry (fun b hb => K.block b (by omega) (by omega)) (fun b hb => ⟨by omega, by omega⟩)
  · rcases h3 with h3 | ⟨e1, e2, e3⟩
    · exact .inl h3
    · refine .inr ⟨e1, ⟨by show w.heap.size ≤ b; omega, by show b < w'.heap.size; omega⟩, TAll.of_get fun i L hi => ?_⟩
      obtain ⟨m1, m2⟩ := e3.get i L hi
      exact ⟨m1.carry (K.block b e2.2 (by omega)), TIn.carry (fun b hb => K.block b hb.2 (by omega)) (fun b hb => ⟨by omega, by omega⟩) L m2⟩
  · exact .mk rfl hnn rfl rfl hl (fun i A A' hA hA' => h.im i A A' hA hA')

/-- A call of a Go function of three arguments, in a region that draws its order. -/
theorem step_callt {P : Program} {ops : Array Oper} {o : Oper} {a : Act} {w : World} {K : Act → World → Prop} {Q : Exit → Act → World → Prop} {E : Prop}
    (hg : o.guard = none) (f : FuncId) (hrun : ∀ (args : Array Value) (w : World), (callFunc f args).run P w = .ok (.enter f args) w) (x y z : Operand) (ts : Array TypeId) (hop : o.op = Op.call { callee := Callee.value (Operand.func f), args := #[x, y, z], argTypes := ts })
    (t u v : Value) (hx : a.eval x = t) (hy : a.eval y = u) (hz : a.eval z = v) (h : Calls P f #[t, u, v] w fun e w' => ∃ r, e = .returned r ∧ K (a.put o.dst r) w') :
    if Region.wanted o (yielded ops a.tmps) = true then Oper.wp P o a w K Q else E := by
  have hw : Region.wanted o (yielded ops a.tmps) = true := by simp [Region.wanted, hg]
  rw [if_pos hw]
  subst hx hy hz
  unfold Oper.wp
  have he : (execOp a.eval o).run P w = .ok (.enter f #[a.eval x, a.eval y, a.eval z]) w := by
    have := hrun #[a.eval x, a.eval y, a.eval z] w
    simpa [go_sem, execOp, hop] using this
  rw [he]
  refine h.mono ?_
  rintro e w' ⟨r, rfl, hr⟩
  exact hr

theorem enter74 (args : Array Value) (w : World) : (callFunc 74 args).run Tryd.prog w = .ok (.enter 74 args) w := enter_of Tryd.func74 (by kernel_rfl) rfl args w

theorem enter90 (args : Array Value) (w : World) : (callFunc 90 args).run Tryd.prog w = .ok (.enter 90 args) w := enter_of Tryd.func90 (by kernel_rfl) rfl args w

theorem info25G : ∃ i, Tryd.prog.info? 33 = some i ∧ i.zero = some (.agg #[.int .i64 0, .int .i64 0, .string { data := #[] }, .slice none 0 0, .slice none 0 0]) ∧ i.size = 5 ∧ i.bytes = 80 := by
  have h : (Tryd.prog.info? 33).map (fun i => (i.zero, i.size, i.bytes)) = some (some (.agg #[.int .i64 0, .int .i64 0, .string { data := #[] }, .slice none 0 0, .slice none 0 0]), 5, 80) := by kernel_rfl
  obtain ⟨i, hi, he⟩ := Option.map_eq_some_iff.1 h
  simp only [Prod.mk.injEq] at he
  exact ⟨i, hi, he⟩

end Go.Proofs.YtkbpmpcbajnmlaaDoor

/- The walk of the document's lift. No condition but that the term lies in memory, that no list in it is longer than 2^40, and that its numbers have room. -/
namespace Go.Proofs.YtkbpmpcbajnmlaaDoor
open Go.RowKit

theorem TRow.slice {w : World} {base : Nat} {e : TypeId} {v : Value} {ts : List Tr} (h : TRow w base e v ts) : ∃ a c, v = .slice a ts.length c := by
  obtain ⟨a, c, _, h, _⟩ := h.args
  exact ⟨a, c, h⟩

theorem node_within {w w2 : World} {g : Nat} {ls : List Lv} {la : Option Addr} {lc : Nat} (h : Node w2 (fun b => g ≤ b ∧ b < w2.heap.size) 0 0 ls la lc) {w3 : World} (hb : Below w2.heap.size w2 w3) (hg : w.heap.size + 2 = g) : Node w3 (fun b => w.heap.size + 2 ≤ b ∧ b < w2.heap.size) 0 0 ls la lc :=
  h.carry (fun b hb' => hb.block b hb'.2) (fun b hb' => ⟨by omega, hb'.2⟩)

theorem FL.start (by_ from_ : Int) {w w1 w2 : World} {T : Tr} {la : Option Addr} {lc : Nat} (nn : Int) (hb1 : Below w.heap.size w w1) (P1 : Blk w1 w.heap.size 33 [.int .i64 T.k, .int .i64 T.n, .string T.s, .slice T.la T.ls.length T.lc, .slice T.a T.args.length T.c]) (Q1 : Blk w1 (w.heap.size + 1) 33 [.int .i64 0, .int .i64 0, .string { data := #[] }, .slice none 0 0, .slice none 0 0]) (hs1 : w1.heap.size = w.heap.size + 2) (hb2 : Below w1.heap.size w1 w2) (hN : Node w2 (fun b => w1.heap.size ≤ b ∧ b < w2.heap.size) 0 0 T.ls la lc) :
    FL by_ from_ w (w2.alloc (.cells #[.int .i64 T.k, .int .i64 nn, .string T.s, .slice la T.ls.length lc, .slice none 0 0] 33)) T w2.heap.size nn la lc (.slice none 0 0) [] := by
  obtain ⟨w3, hw3, hb3, O3, hs3⟩ := one_newG w2 [.int .i64 T.k, .int .i64 nn, .string T.s, .slice la T.ls.length lc, .slice none 0 0] 33
  have hz2 := hb2.size
  rw [hw3]
  exact ⟨(hb1.trans (hb2.mono (by omega))).trans (hb3.mono (by omega)), (P1.below hb2 P1.lt).below hb3 (by omega), (Q1.below hb2 Q1.lt).below hb3 (by omega), O3, node_within (w := w) hN hb3 (by omega), TRow.nil _ _ _, fun i A A' _ h => by simp at h, by omega, by omega⟩

end Go.Proofs.YtkbpmpcbajnmlaaDoor
