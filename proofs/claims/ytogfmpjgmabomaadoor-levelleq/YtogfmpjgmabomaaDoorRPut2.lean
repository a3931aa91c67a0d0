/- The walks of the document's Put, Copy. No condition but that what was given are levels in memory. -/
import Derived.Test.YtogfmpjgmabomaaDoorRPut
import Derived.Deep.RegionLaw
namespace Go.Proofs.YtogfmpjgmabomaaDoor
open Go.RowKit

/-- A call of a Go function, in a region that draws its order. -/
theorem step_call {P : Program} {ops : Array Oper} {o : Oper} {a : Act} {w : World} {K : Act → World → Prop} {Q : Exit → Act → World → Prop} {E : Prop}
    (hg : o.guard = none) (f : FuncId) (hrun : ∀ (args : Array Value) (w : World), (callFunc f args).run P w = .ok (.enter f args) w) (x y : Operand) (ts : Array TypeId) (hop : o.op = Op.call { callee := Callee.value (Operand.func f), args := #[x, y], argTypes := ts })
    (u v : Value) (hx : a.eval x = u) (hy : a.eval y = v) (h : Calls P f #[u, v] w fun e w' => ∃ r, e = .returned r ∧ K (a.put o.dst r) w') :
    if Region.wanted o (yielded ops a.tmps) = true then Oper.wp P o a w K Q else E := by
  have hw : Region.wanted o (yielded ops a.tmps) = true := by simp [Region.wanted, hg]
  rw [if_pos hw]
  subst hx hy
  unfold Oper.wp
  have he : (execOp a.eval o).run P w = .ok (.enter f #[a.eval x, a.eval y]) w := by
    have := hrun #[a.eval x, a.eval y] w
    simpa [go_sem, execOp, hop] using this
  rw [he]
  refine h.mono ?_
  rintro e w' ⟨r, rfl, hr⟩
  exact hr
theorem enter_of {P : Program} {f : FuncId} {fn : Func} {c : Code} (hf : P.funcs[f]? = some fn) (hname : (fn.name == "runtime.NumGoroutine") = false) (hb : fn.body = some c) (args : Array Value) (w : World) : (callFunc f args).run P w = .ok (.enter f args) w := by
  have h1 : fn.name ≠ "runtime.NumGoroutine" := by simpa using hname
  simp [callFunc, hf, h1, hb]
theorem enter29 (args : Array Value) (w : World) : (callFunc 29 args).run Tryd.prog w = .ok (.enter 29 args) w := enter_of Tryd.func29 (by kernel_rfl) rfl args w

/-- Copy at one level. -/
def CopyAt (x : Lv) : Prop := ∀ (w : World) (B : Nat) (va : Value), B ≤ w.heap.size → In w (· < B) x va →
    Calls Tryd.prog 45 #[va] w fun e w' => ∃ v, e = .returned v ∧ In w' (fun b => w.heap.size ≤ b ∧ b < w'.heap.size) x v ∧ Below w.heap.size w w'

set_option maxRecDepth 100000 in
set_option maxHeartbeats 1000000 in
theorem rput_par (by_ : List Lv) (n : Int) (args : List Lv) (h0 : 0 ≤ n) (h1 : n < by_.length) (hz : ∀ y ∈ by_, CopyAt y) : RPutAt by_ (.mk 4 n args) := by
  intro w B va ab capb hB hin hby
  obtain ⟨a, cap, rfl, hN⟩ := hin.node
  obtain ⟨m, rfl⟩ : ∃ m : Nat, n = m := ⟨n.toNat, by omega⟩
  have hlt : m < by_.length := by omega
  obtain ⟨y, hy⟩ : ∃ L, by_[m]? = some L := ⟨_, List.getElem?_eq_getElem hlt⟩
  have hput : (Lv.mk 4 m args).put by_ = y := by rw [Lv.put_mk, if_pos ⟨rfl, by omega, by omega⟩]; simp [List.getD_eq_getElem?_getD, hy]
  rw [hput]
  obtain ⟨w1, hw1, hb1, P1, Q1, hs1⟩ := two_new w [.int .i64 4, .int .i64 m, .slice a args.length cap] [.int .i64 0, .int .i64 0, .slice none 0 0] 24 24
  obtain ⟨b, off, k', n', args', a', cap', rfl, hS, rfl, e0, e1, e2, hN'⟩ := (hby.below hb1 (by omega)).get hy
  have hle := hby.le
  have hmx := hby.max
  have p0 := P1.cell (j := 0) rfl
  have p1 := P1.cell (j := 1) rfl
  have HY : Hid (by_[m]? = some (.mk k' n' args')) := hy
  clear hy hput
  have hc := hz _ (List.mem_of_getElem? HY.out) w1 B _ (by omega) hN'.is
  go_enter Tryd.func29, Tryd.ntmps29
  go_wp2_with (go_at_call 45; go_must (refine hc.mono ?_); rintro e w2 ⟨v, rfl, hi, hb2⟩; obtain ⟨kv, nv, av, lv, cv, rfl⟩ := hi.shape; have Q2 := Q1.below hb2 Q1.lt; have q0 := Q2.cell (j := 0) rfl; have q1 := Q2.cell (j := 1) rfl; have q2 := Q2.cell (j := 2) rfl; have f0 := Q2.frozen 0; have f1 := Q2.frozen 1; have f2 := Q2.frozen 2)
  obtain ⟨Q3, K3⟩ := st3 Q2 (.int .i64 kv) (.int .i64 nv) (.slice av lv cv)
  have c0 := Q3.cell (j := 0) rfl
  have c1 := Q3.cell (j := 1) rfl
  have c2 := Q3.cell (j := 2) rfl
  have hz2 := hb2.size
  have hz3 := K3.size
  refine bodyPost_ret (v := .agg #[.int .i64 kv, .int .i64 nv, .slice av lv cv]) (by simp [results, Tryd.results29, go_sem, c0, c1, c2]) rfl ⟨_, rfl, ?_, ?_⟩
  · exact In.carry (fun b hb => K3.block b hb.2 (by omega)) (fun b hb => ⟨by omega, by omega⟩) _ _ hi
  · exact (hb1.trans (hb2.mono (by omega))).trans (K3.below (by omega) (by omega))

theorem RL.start (w : World) (by_ args : List Lv) (k n : Int) (a : Option Addr) (cap : Nat) : RL w (((w.alloc (.cells #[.int .i64 k, .int .i64 n, .slice a args.length cap] 24)).alloc (.cells #[.int .i64 0, .int .i64 0, .slice none 0 0] 24)).alloc (.cells #[.int .i64 k, .int .i64 n, .slice none 0 0] 24)) by_ args k n a cap 0 none 0 := by
  obtain ⟨w1, hw1, hb1, P1, Q1, R1, hs1⟩ := three_new w [.int .i64 k, .int .i64 n, .slice a args.length cap] [.int .i64 0, .int .i64 0, .slice none 0 0] [.int .i64 k, .int .i64 n, .slice none 0 0] 24 24 24
  rw [hw1]
  exact ⟨hb1, P1, Q1, R1, [], ⟨by simp, .inl ⟨rfl, rfl⟩⟩, fun i _ hi => absurd hi (Nat.not_lt_zero i)⟩
theorem owns_shape {w : World} {base : Nat} {e : TypeId} {size n : Nat} {v : Value} {xs : List Value} (h : w.ownsRow base e size v n xs) (hn : 0 < n) : ∃ g cap, v = .slice (some ⟨g, 0, none⟩) n cap ∧ base ≤ g ∧ g < w.heap.size ∧ n ≤ cap ∧ cap ≤ maxLen := by
  rcases h.2 with ⟨_, h0⟩ | ⟨g, cap, cur, rfl, hb, hcur, h1, h2, _⟩
  · omega
  · exact ⟨g, cap, rfl, hb, (Array.getElem?_eq_some_iff.1 hcur).1, h1, h2⟩
theorem owns_below {w w' : World} {base : Nat} {e : TypeId} {size n : Nat} {v : Value} {xs : List Value} (h : w.ownsRow base e size v n xs) (hb : Below w.heap.size w w') : w'.ownsRow base e size v n xs := by
  refine ⟨h.1, ?_⟩
  rcases h.2 with h0 | ⟨g, cap, cur, rfl, h1, hcur, r⟩
  · exact .inl h0
  · exact .inr ⟨g, cap, cur, rfl, h1, (hb.block g (Array.getElem?_eq_some_iff.1 hcur).1).trans hcur, r⟩
theorem info24' : ∃ i, Tryd.prog.info? 24 = some i ∧ i.zero = some (.agg #[.int .i64 0, .int .i64 0, .slice none 0 0]) ∧ i.size = 3 ∧ i.bytes = 40 := by
  obtain ⟨i, hi, he⟩ := Option.map_eq_some_iff.1 info24
  simp only [Prod.mk.injEq] at he
  exact ⟨i, hi, he⟩

set_option maxRecDepth 100000 in
set_option maxHeartbeats 1000000 in
theorem rput_node (by_ : List Lv) (k : Int) (n : Int) (args : List Lv) (hA : k ≠ 4) (hl2 : args.length ≤ 2) (ih : ∀ x ∈ args, RPutAt by_ x) : RPutAt by_ (.mk k n args) := by
  intro w B va ab capb hB hin hby
  obtain ⟨a, cap, rfl, hN⟩ := hin.node
  have hput : (Lv.mk k n args).put by_ = .mk k n (Lv.puts by_ args) := by rw [Lv.put_mk, if_neg (by omega)]
  rw [hput]
  clear hput
  have hle := hN.le
  have hmx := hN.max
  have k0 := hN.k0
  have k1 := hN.k1
  have n0 := hN.n0
  have n1 := hN.n1
  obtain ⟨i24, hi24, hz24, hs24, hb24⟩ := info24'
  go_enter Tryd.func29, Tryd.ntmps29
  go_wp2_with fail
  have R0 := RL.start w by_ args k n a cap
  go_loopw [6] (fun i wr => ∃ (j : Nat) (ao : Option Addr) (capo : Nat), i = .int .i64 (j : Int) ∧ j ≤ args.length ∧ RL w wr by_ args k n a cap j ao capo ∧ w.heap.size + 3 ≤ wr.heap.size ∧ j ≤ capo ∧ capo ≤ maxLen) (fun i _ => args.length - (intOf i).toNat)
  case atStart => exact ⟨0, none, 0, rfl, by omega, R0, by simp, by omega, by decide⟩
  case round =>
    clear R0
    obtain ⟨j, ao, capo, rfl, hj, hP, hsz, hjc, hcm⟩ := hrel
    have b2 := hP.box.cell (j := 2) rfl
    by_cases hlt : j < args.length
    · obtain ⟨x, hx⟩ : ∃ L, args[j]? = some L := ⟨_, List.getElem?_eq_getElem hlt⟩
      obtain ⟨b, off, k1, n1, args1, a1, cap1, rfl, hS, rfl, e0, e1, e2, M1⟩ := (hN.below hP.bel hB).get hx
      have HX : Hid (args[j]? = some (.mk k1 n1 args1)) := hx
      clear hx
      have o2 := hP.out.cell (j := 2) rfl
      have hcall := ih _ (List.mem_of_getElem? HX.out) wr.drew B _ ab capb (show B ≤ wr.heap.size by omega) (M1.carry (w' := wr.drew) (fun _ _ => rfl) (fun _ h => h)).is ((hby.below hP.bel hB).carry (w' := wr.drew) (fun _ _ => rfl) (fun _ h => h))
      obtain ⟨xs, hown, hall⟩ := hP.row
      have hob : ∀ b, (Value.slice ao j capo).ownBlock = some b → w.heap.size + 3 ≤ b ∧ b < wr.heap.size := fun g hg => by
        rcases hown.2 with ⟨e, _⟩ | ⟨g', c', cur, e, h1, hcur, _⟩
        · rw [e] at hg; cases hg
        · rw [e] at hg; simp [Value.ownBlock] at hg; subst hg; exact ⟨h1, (Array.getElem?_eq_some_iff.1 hcur).1⟩
      have hxs := hown.1
      have HO : Hid (wr.ownsRow (w.heap.size + 3) 24 3 (.slice ao j capo) j xs ∧ xs.length = j * 3) := ⟨hown, hxs⟩
      clear hown hxs
      go_wp2_with fail
      go_region_law (first
        | (refine step_call (by rfl) 29 enter29 (.tmp 46) (.tmp 47) #[24, 22] (by rfl) _ _ (by rfl) (by rfl) (hcall.mono ?_); rintro e w6 ⟨v, rfl, hi6, hb6⟩; obtain ⟨kv, nv, av, lv, cv, rfl⟩ := hi6.shape; refine ⟨_, rfl, ?_⟩; obtain ⟨w7, hw7, hb7, X7, hs7⟩ := one_new w6 [.int .i64 kv, .int .i64 nv, .slice av lv cv] 24; have hz6 : wr.heap.size ≤ w6.heap.size := hb6.size; have g1 := (bcell' hb6 _ _ (show w.heap.size < wr.heap.size by omega)).trans b2; have g2 := (bcell' hb6 _ _ (show b < wr.heap.size by omega)).trans e0; have g3 := (bcell' hb6 _ _ (show b < wr.heap.size by omega)).trans e1; have g4 := (bcell' hb6 _ _ (show b < wr.heap.size by omega)).trans e2; have g5 := (bcell' hb6 _ _ (show w.heap.size + 1 + 1 < wr.heap.size by omega)).trans o2; have j1 := (bcell' hb7 _ _ (show w.heap.size < w6.heap.size by omega)).trans g1; have j2 := (bcell' hb7 _ _ (show b < w6.heap.size by omega)).trans g2; have j3 := (bcell' hb7 _ _ (show b < w6.heap.size by omega)).trans g3; have j4 := (bcell' hb7 _ _ (show b < w6.heap.size by omega)).trans g4; have j5 := (bcell' hb7 _ _ (show w.heap.size + 1 + 1 < w6.heap.size by omega)).trans g5)
        | (refine step_append_own (by rfl) (.tmp 41) (.tmp 49) 22 (by rfl) (w.heap.size + 3) 24 i24 _ 3 40 Tryd.underlying22 hi24 hz24 hs24 hb24 (by rfl) (by decide) (.slice ao j capo) j xs (by rfl) (owns_below (owns_below (w := wr.drew) HO.out.1 hb6) hb7) ⟨w6.heap.size, 0, none⟩ 1 1 [.int .i64 kv, .int .i64 nv, .slice av lv cv] (by rfl) (by rfl) (fun i u hu => by rw [Addr.add_lit, Nat.zero_add]; exact X7.cell hu) (by simp [Value.oneCell']) (by unfold maxLen; omega) (by omega) (by omega) (by decide) ?_; intro v' w8 ho8 hg8 hn8; obtain ⟨g', c', rfl, hg'1, hg'2, hg'3, hg'4⟩ := owns_shape ho8 (by omega); have hz8 := hg8.size; have low : ∀ b', b' < w.heap.size + 3 → some b' ≠ (Value.slice ao j capo).ownBlock := (fun b' hb' e => by have := hob b' e.symm; omega); have l1 := (World.cell?_of_block (a := ⟨w.heap.size, 2, none⟩) (hg8.block w.heap.size (by omega) (low w.heap.size (by omega)))).trans j1; have l2 := (World.cell?_of_block (a := ⟨b, off + j * 3, none⟩) (hg8.block b (by omega) (low b (by omega)))).trans j2; have l3 := (World.cell?_of_block (a := ⟨b, off + j * 3 + 1, none⟩) (hg8.block b (by omega) (low b (by omega)))).trans j3; have l4 := (World.cell?_of_block (a := ⟨b, off + j * 3 + 2, none⟩) (hg8.block b (by omega) (low b (by omega)))).trans j4; have l5 := (World.cell?_of_block (a := ⟨w.heap.size + 1 + 1, 2, none⟩) (hg8.block (w.heap.size + 1 + 1) (by omega) (low (w.heap.size + 1 + 1) (by omega)))).trans j5; have l6 := (World.frozen?_of_block (a := ⟨w.heap.size + 1 + 1, 2, none⟩) (hg8.block (w.heap.size + 1 + 1) (by omega) (low (w.heap.size + 1 + 1) (by omega)))).trans (((hP.out.drew.below hb6 (show w.heap.size + 1 + 1 < wr.heap.size by omega)).below hb7 (by omega)).frozen 2); have l7 : w.heap.size + 1 + 1 ≠ w.heap.size := (by omega); have l8 : w.heap.size + 1 + 1 ≠ b := (by omega)))
      all_goals
        go_wp2_with fail
        go_roundw
        case rel => exact ⟨j + 1, _, _, by go_num, by omega, hP.step hsz (Below.trans (Below.refl _ _).drew hb6) HX.out hi6 hb7 hall HO.out.2 ho8 hg8 hob hn8, by simp [World.setCell]; omega, by omega, by omega⟩
        case measure => simp [intOf]; omega
    · obtain rfl : j = args.length := by omega
      have hD := hP.done hsz ⟨hjc, hcm⟩ ⟨by omega, by omega⟩ ⟨by omega, by omega⟩
      have o0 := hP.out.cell (j := 0) rfl
      have o1 := hP.out.cell (j := 1) rfl
      have o2 := hP.out.cell (j := 2) rfl
      have q0 := hP.res.cell (j := 0) rfl
      have q1 := hP.res.cell (j := 1) rfl
      have q2 := hP.res.cell (j := 2) rfl
      have f0 := hP.res.frozen 0
      have f1 := hP.res.frozen 1
      have f2 := hP.res.frozen 2
      obtain ⟨Q3, _⟩ := st3 hP.res (.int .i64 k) (.int .i64 n) (.slice ao args.length capo)
      have c0 := Q3.cell (j := 0) rfl
      have c1 := Q3.cell (j := 1) rfl
      have c2 := Q3.cell (j := 2) rfl
      go_wp2_with fail
      refine bodyPost_ret (v := .agg #[.int .i64 k, .int .i64 n, .slice ao args.length capo]) (by simp [results, Tryd.results29, go_sem, c0, c1, c2]) rfl ⟨_, rfl, ?_, hD.2⟩
      exact hD.1.mono (fun b hb => ⟨hb.1, by simp [World.setCell]; exact hb.2⟩)

set_option maxRecDepth 100000 in
set_option maxHeartbeats 1000000 in
theorem rput_stay (by_ : List Lv) (n : Int) (hA : 0 ≤ n) (hA' : (by_.length : Int) ≤ n) : RPutAt by_ (.mk 4 n []) := by
  intro w B va ab capb hB hin hby
  obtain ⟨a, cap, rfl, hN⟩ := hin.node
  have hput : (Lv.mk 4 n []).put by_ = .mk 4 n (Lv.puts by_ []) := by rw [Lv.put_mk, if_neg (by omega)]
  rw [hput]
  clear hput
  have hle := hN.le
  have hmx := hN.max
  have k0 := hN.k0
  have k1 := hN.k1
  have n0 := hN.n0
  have n1 := hN.n1
  go_enter Tryd.func29, Tryd.ntmps29
  go_wp2_with fail
  have R0 := RL.start w by_ [] 4 n a cap
  simp only [List.length_nil] at R0
  go_loopw [6] (fun i wr => i = .int .i64 0 ∧ RL w wr by_ [] 4 n a cap 0 none 0 ∧ w.heap.size + 3 ≤ wr.heap.size) (fun _ _ => 0)
  case atStart => exact ⟨rfl, R0, by simp⟩
  case round =>
    clear R0
    obtain ⟨rfl, hP, hsz⟩ := hrel
    have hD := hP.done hsz ⟨by simp, by simp⟩ ⟨by omega, by omega⟩ ⟨by omega, by omega⟩
    simp only [List.length_nil] at hD
    have b2 := hP.box.cell (j := 2) rfl
    have o0 := hP.out.cell (j := 0) rfl
    have o1 := hP.out.cell (j := 1) rfl
    have o2 := hP.out.cell (j := 2) rfl
    have q0 := hP.res.cell (j := 0) rfl
    have q1 := hP.res.cell (j := 1) rfl
    have q2 := hP.res.cell (j := 2) rfl
    have f0 := hP.res.frozen 0
    have f1 := hP.res.frozen 1
    have f2 := hP.res.frozen 2
    obtain ⟨Q3, _⟩ := st3 hP.res (.int .i64 4) (.int .i64 n) (.slice none 0 0)
    have c0 := Q3.cell (j := 0) rfl
    have c1 := Q3.cell (j := 1) rfl
    have c2 := Q3.cell (j := 2) rfl
    simp only [List.length_nil] at b2
    go_wp2_with fail
    refine bodyPost_ret (v := .agg #[.int .i64 4, .int .i64 n, .slice none 0 0]) (by simp [results, Tryd.results29, go_sem, c0, c1, c2]) rfl ⟨_, rfl, ?_, hD.2⟩
    exact hD.1.mono (fun b hb => ⟨hb.1, by simp [World.setCell]; exact hb.2⟩)
end Go.Proofs.YtogfmpjgmabomaaDoor
