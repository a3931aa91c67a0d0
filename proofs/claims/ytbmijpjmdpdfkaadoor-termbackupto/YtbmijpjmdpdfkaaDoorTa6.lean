/- The walk of a tally's of, where nothing is noted. No condition but that the level and the tally lie in memory and few parts are met. -/
import Derived.Test.YtbmijpjmdpdfkaaDoorTa5
import Derived.Test.YtbmijpjmdpdfkaaDoorOf
namespace Go.Proofs.YtbmijpjmdpdfkaaDoor
open Go.RowKit

/-- What a tally leaves. -/
structure TEnd (w w' : World) (B tg : Nat) (v0 : Value) (met : Nat) (v : Value) (n : Nat) (xs : List Value) : Prop where
  blk : Blk w' tg 105 [.slice none 0 0, .int .i64 (met : Int), v, .map none]
  row : w'.ownsRow B 131 4 v n xs
  own : v.ownBlock = v0.ownBlock ∨ ∃ k, v.ownBlock = some k ∧ w.heap.size ≤ k
  keep : Keep w w' (fun k => k = tg ∨ v0.ownBlock = some k)

theorem cut_none (ao : Option Addr) (n cap : Nat) (h : ao = none ∧ cap = 0 ∨ ∃ g, ao = some ⟨g, 0, none⟩) (w : World) : (Instr.slice 102 (.slice ao n cap) none (some (.int .i64 0)) none).run Tryd.prog w = .ok (.slice ao 0 cap) w := by
  rcases h with ⟨rfl, rfl⟩ | ⟨g, rfl⟩
  · simp [Instr.slice, go_sem]
  · simp [Instr.slice, go_sem]

/-- A call of a Go function of three operands, in a region that draws its order. -/
theorem step_call33 {P : Program} {ops : Array Oper} {o : Oper} {a : Act} {w : World} {K : Act → World → Prop} {Q : Exit → Act → World → Prop} {E : Prop}
    (hg : o.guard = none) (f : FuncId) (hrun : ∀ (args : Array Value) (w : World), (callFunc f args).run P w = .ok (.enter f args) w) (x y z : Operand) (ts : Array TypeId) (hop : o.op = Op.call { callee := Callee.value (Operand.func f), args := #[x, y, z], argTypes := ts })
    (u v t : Value) (hx : a.eval x = u) (hy : a.eval y = v) (hz : a.eval z = t) (h : Calls P f #[u, v, t] w fun e w' => ∃ r, e = .returned r ∧ K (a.put o.dst r) w') :
    if Region.wanted o (yielded ops a.tmps) = true then Oper.wp P o a w K Q else E := by
  have hw : Region.wanted o (yielded ops a.tmps) = true := by simp [Region.wanted, hg]
  rw [if_pos hw]
  subst hx hy hz
  unfold Oper.wp
  have he : (execOp a.eval o).run P w = .ok (.enter f #[a.eval x, a.eval y, a.eval z]) w := by
    have := hrun #[a.eval x, a.eval y, a.eval z] w
    simpa [go_sem, execOp, hop] using this
  rw [he]
  refine h.mono ?_
  rintro e w' ⟨r, rfl, hr⟩
  exact hr
theorem enter89 (args : Array Value) (w : World) : (callFunc 89 args).run Tryd.prog w = .ok (.enter 89 args) w := enter_of Tryd.func89 (by kernel_rfl) rfl args w
theorem enter90 (args : Array Value) (w : World) : (callFunc 90 args).run Tryd.prog w = .ok (.enter 90 args) w := enter_of Tryd.func90 (by kernel_rfl) rfl args w

set_option maxRecDepth 100000 in
set_option maxHeartbeats 4000000 in
theorem tally_of (B tg n0 met lb lo c : Nat) (v0 : Value) (xs0 : List Value) (k n : Int) (args : List Lv) (a : Option Addr) (w : World) (hB : Blk w tg 105 [.slice none 0 0, .int .i64 (met : Int), v0, .map none]) (hO : w.ownsRow B 131 4 v0 n0 xs0) (htg : B ≤ tg)
    (c0 : w.cell? ⟨lb, lo, none⟩ = some (.int .i64 k)) (c1 : w.cell? ⟨lb, lo + 1, none⟩ = some (.int .i64 n)) (c2 : w.cell? ⟨lb, lo + 2, none⟩ = some (.slice a args.length c)) (hN : Node w (· < B) k n args a c) (hlb : lb < B) (hm : met + Lv.sizes args ≤ 262144) :
    Calls Tryd.prog 74 #[.pointer (some ⟨tg, 0, none⟩), .pointer (some ⟨lb, lo, none⟩)] w fun e w' => e = .returned (.int .i64 ((Lv.sizes args + 1 : Nat) : Int)) ∧ ∃ v n xs, TEnd w w' B tg v0 (met + Lv.sizes args) v n xs := by
  have lg := hB.lt
  obtain ⟨w1, hw1, hb1, P1, hs1⟩ := one_new w [.slice none 0 0, .bool false, .int .i64 0, .int .i64 1] 131
  have hov : ∀ k, v0.ownBlock = some k → B ≤ k := fun k e => (owns_own hO e).1
  obtain ⟨ao, cap, rfl, hao⟩ : ∃ ao cap, v0 = .slice ao n0 cap ∧ (ao = none ∧ cap = 0 ∨ ∃ g, ao = some ⟨g, 0, none⟩) := by
    rcases hO.2 with ⟨h0, h1⟩ | ⟨g, cap, cur, rfl, _⟩
    · exact ⟨none, 0, by rw [h0, h1], .inl ⟨rfl, rfl⟩⟩
    · exact ⟨_, _, rfl, .inr ⟨g, rfl⟩⟩
  have hcut := cut_none ao n0 cap hao
  have B1 := hB.below hb1 hB.lt
  have t2 := B1.cell (j := 2) rfl
  have p0 := P1.cell (j := 0) rfl
  have p1 := P1.cell (j := 1) rfl
  have p2 := P1.cell (j := 2) rfl
  have p3 := P1.cell (j := 3) rfl
  have t2' : (w1.alloc (.cells #[.slice none 0 0, .bool false, .int .i64 0, .int .i64 1] 131)).cell? ⟨tg, 2, none⟩ = some (.slice ao n0 cap) := (B1.alloc _).cell (j := 2) rfl
  obtain ⟨i131, hi131, hz131, hs131, hb131⟩ := info131
  have X2 := Blk.new w1.drew 131 [.slice none 0 0, .bool false, .int .i64 0, .int .i64 1]
  have hb2 : Below w1.heap.size w1 (w1.drew.alloc (.cells #[.slice none 0 0, .bool false, .int .i64 0, .int .i64 1] 131)) := ((Below.refl _ _).drew).alloc (Nat.le_refl _) _
  have hb12 := hb1.trans (hb2.mono hb1.size)
  have h1 : w.ownsRow B 131 4 (.slice ao 0 cap) 0 [] := by
    rcases hao with ⟨rfl, rfl⟩ | ⟨g, rfl⟩
    · exact ⟨rfl, .inl ⟨rfl, rfl⟩⟩
    · exact owns_cut (xs := []) (ys := xs0) hO rfl (Nat.zero_le _)
  have h2 := owns_below h1 hb12
  have B2 := B1.below hb2 B1.lt
  have hbs : B ≤ (w1.drew.alloc (.cells #[.slice none 0 0, .bool false, .int .i64 0, .int .i64 1] 131)).heap.size := Nat.le_trans (by omega : B ≤ w.heap.size) hb12.size
  have hob : (Value.slice ao 0 cap).ownBlock = (Value.slice ao n0 cap).ownBlock := by cases ao <;> rfl
  go_enter Tryd.func74, Tryd.ntmps74
  go_wp2_with fail
  go_region_law (refine step_append_own (by rfl) (.tmp 13) (.tmp 15) 102 (by rfl) B 131 i131 _ 4 48 Tryd.underlying102 hi131 hz131 hs131 hb131 (by rfl) (by decide) (.slice ao 0 cap) 0 [] (by rfl) h2 ⟨w1.heap.size, 0, none⟩ 1 1 [.slice none 0 0, .bool false, .int .i64 0, .int .i64 1] (by rfl) (by rfl) (fun i u hu => by rw [Addr.add_lit, Nat.zero_add]; exact X2.cell hu) (by simp [Value.oneCell']) (by unfold maxLen; omega) (by omega) hbs (by decide) ?_; intro v3 w3 h3 hg3 hn3; obtain ⟨g3, cap3, rfl, hg31, hg32, hg33, hg34⟩ := owns_shape h3 (by omega); have B3 := B2.carry (hg3.block tg B2.lt (fun e => owns_ne h2 B2 (by decide) e.symm)); have r2 := B3.cell (j := 2) rfl; have rf := B3.frozen 2)
  all_goals
    obtain ⟨w4, hw4, K4⟩ : ∃ w4, w3.setCell ⟨tg, 2, none⟩ (.slice (some ⟨g3, 0, none⟩) 1 cap3) = w4 ∧ Keep w3 w4 (fun k => k = tg) := ⟨_, rfl, (Keep.refl w3 (fun k => k = tg)).setCell (g := tg) (fun _ => rfl) _ _⟩
    have S4 : TS w w4 B tg (.slice ao n0 cap) 1 met 1 met [] (.slice (some ⟨g3, 0, none⟩) 1 cap3) := by
      have h4 : w4.ownsRow B 131 4 (.slice (some ⟨g3, 0, none⟩) 1 cap3) 1 [.slice none 0 0, .bool false, .int .i64 0, .int .i64 1] := owns_block h3 (fun g e => K4.block g (owns_own h3 e).2 (fun h => owns_ne h3 B3 (by decide) (by rw [e, h])))
      have B4 : Blk w4 tg 105 [.slice none 0 0, .int .i64 (met : Int), .slice (some ⟨g3, 0, none⟩) 1 cap3, .map none] := by rw [← hw4]; exact B3.set 2 _
      refine ⟨B4, h4, ?_, ?_, (fun s hs => by cases hs), rfl, rfl⟩
      · rcases hn3 with h | ⟨k, h, hk⟩
        · exact .inl (h.trans hob)
        · exact .inr ⟨k, h, Nat.le_trans hb12.size hk⟩
      · refine ((Keep.of_below hb12 (Nat.le_refl _)).trans (Keep.of_grownS hg3) (fun k hk e => .inr (hob ▸ e))).trans K4 (fun k hk e => .inl e)
    have L4 := S4.low htg hov (by omega)
    have d0 := (World.cell?_of_block (L4.block lb hlb)).trans c0
    have d1 := (World.cell?_of_block (L4.block lb hlb)).trans c1
    have d2 := (World.cell?_of_block (L4.block lb hlb)).trans c2
    have hc4 := tput_any tg lb lo _ _ _ _ k n w4 S4.blk d0 d1 d2
    have HW4 : Hid (w3.setCell ⟨tg, 2, none⟩ (.slice (some ⟨g3, 0, none⟩) 1 cap3) = w4) := hw4
    clear hw4 hw1
    go_wp2_with fail
    rw [HW4.out]
    refine hc4.mono ?_
    rintro e w5 ⟨rfl, q, rfl⟩
    have hc5 := (S4.drewN q).enter (by omega) hN (by omega) (by simp [spMeas])
    clear hc4
    go_wp2_with fail
    refine hc5.mono ?_
    rintro e w6 ⟨rfl, met6, st6, v6, S6, hm6⟩
    clear hc5
    go_wp2_with fail
    go_loopw [] (fun wr => ∃ bsz met' st v, TS w wr B tg (.slice ao n0 cap) (1 + Lv.sizes args) (met + Lv.sizes args) bsz met' st v ∧ spMeas st ≤ 1073741823) (fun wr => leastOf (fun m => ∃ bsz met' st v, spMeas st = m ∧ TS w wr B tg (.slice ao n0 cap) (1 + Lv.sizes args) (met + Lv.sizes args) bsz met' st v))
    case atStart => exact ⟨_, _, _, _, S6, by simp only [spMeas] at hm6; omega⟩
    case round =>
      obtain ⟨b0, m0, st0, v0', I0, hmz⟩ := hrel
      obtain ⟨bsz, met', st, v, hms, I⟩ := leastOf_is (P := fun m => ∃ bsz met' st v, spMeas st = m ∧ TS w wr B tg (.slice ao n0 cap) (1 + Lv.sizes args) (met + Lv.sizes args) bsz met' st v) ⟨_, b0, m0, st0, v0', rfl, I0⟩
      have hle : spMeas st ≤ 1073741823 := by rw [hms]; exact Nat.le_trans (leastOf_le ⟨b0, m0, st0, v0', rfl, I0⟩) hmz
      have HM : Hid (spMeas st = leastOf (fun m => ∃ bsz met' st v, spMeas st = m ∧ TS w wr B tg (.slice ao n0 cap) (1 + Lv.sizes args) (met + Lv.sizes args) bsz met' st v)) := hms
      clear hms I0 hmz S6 hm6 S4
      cases st with
      | nil =>
        obtain ⟨g, cp, rfl, hg1, hg2, hg3', hg4⟩ := owns_shape I.row (by simp)
        have u2 := I.blk.cell (j := 2) rfl
        obtain ⟨g', e', _, _, _, _, u3⟩ := owns_cell I.row (i := 3) (c := .int .i64 (bsz : Int)) rfl
        simp only [Option.some.injEq, Addr.mk.injEq, and_true] at e'
        subst e'
        have ht := I.tot
        have hmm := I.met
        simp only [spSum, spLeft] at ht hmm
        simp only [List.length_nil, Nat.zero_add] at u2 hg3'
        go_wp2_with fail
        go_ret
        exact ⟨by rw [show bsz = Lv.sizes args + 1 by omega]; rfl, _, _, _, ⟨by rw [show met + Lv.sizes args = met' by omega]; exact I.blk, I.row, I.own, I.keep⟩⟩
      | cons s r =>
        obtain ⟨g, cp, rfl, hg1, hg2, hg3', hg4⟩ := owns_shape I.row (by simp)
        have u2 := I.blk.cell (j := 2) rfl
        have row := I.row
        simp only [spCells, Sp.cells, List.length_cons] at row u2 hg3'
        have hS := I.spans s (List.mem_cons_self ..)
        have at_ : ∀ j u, ([.slice (some ⟨s.b, s.off, none⟩) s.ls.length s.c, .bool true, .int .i64 (s.i : Int), .int .i64 (s.sz : Int)] : List Value)[j]? = some u → wr.cell? ⟨g, (r.length + 1) * 4 + j, none⟩ = some u := fun j u hj => by
          obtain ⟨g2, h1, _, _, _, _, h2⟩ := owns_cell row (i := (r.length + 1) * 4 + j) (c := u) (by rw [List.getElem?_append_right (by rw [spCells_len]; omega), spCells_len, show (r.length + 1) * 4 + j - (r.length + 1) * 4 = j from by omega]; exact hj)
          simp only [Option.some.injEq, Addr.mk.injEq, and_true] at h1
          rw [h1]; exact h2
        have a0 : wr.cell? ⟨g, (r.length + 1) * 4, none⟩ = _ := at_ 0 _ rfl
        have a1 := at_ 1 _ rfl
        have a2 := at_ 2 _ rfl
        have fz := owns_frozen row ((r.length + 1) * 4 + 2)
        have hll := spLen_meas (s :: r)
        simp only [List.length_cons] at hll
        obtain ⟨m, hmr⟩ : ∃ m, r.length = m := ⟨_, rfl⟩
        rw [hmr] at u2 hg3' a0 a1 a2 fz hll
        have HR : Hid (r.length = m) := hmr
        have e1 : ((m : Int) + 1 + 1 - 1) = (m : Int) + 1 := by omega
        have e2 : decide ((1 : Int) < (m : Int) + 1 + 1) = true := by simp; omega
        clear at_ row hmr
        by_cases hi : s.i = s.ls.length
        · have hq : ((s.i : Int) == (s.ls.length : Int)) = true := by simp; omega
          go_wp2_with fail
          go_quiet (fail)
          go_wp2_with fail
          go_quiet (fail)
          go_wp2_with fail
          refine ((I.drewN _).leave hi (by omega) (by omega) hle).mono ?_
          rintro e w7 ⟨rfl, bsz7, st7, v7, S7, hm7⟩
          go_wp2_with fail
          go_roundw
          case rel => exact ⟨bsz7, met', st7, v7, S7, by omega⟩
          case measure =>
            rw [← HM.out]
            exact Nat.lt_of_le_of_lt (leastOf_le ⟨bsz7, met', st7, v7, rfl, S7⟩) hm7
        · have hlt : s.i < s.ls.length := by have := hS.le; omega
          obtain ⟨⟨k', n', args'⟩, hx⟩ : ∃ L, s.ls[s.i]? = some L := ⟨_, List.getElem?_eq_getElem hlt⟩
          have hq : ((s.i : Int) == (s.ls.length : Int)) = false := by simp; omega
          have hcap := hS.cap
          have hmax := hS.max
          obtain ⟨x0, x1, x2, y0, y1, y2, hxin⟩ := hS.all.get s.i _ hx
          obtain ⟨a', c', ea, hN'⟩ := hxin.node
          simp only [Value.agg.injEq, Array.mk.injEq, List.cons.injEq, and_true] at ea
          obtain ⟨rfl, rfl, rfl⟩ := ea
          go_wp2_with fail
          go_quiet (fail)
          obtain ⟨q1, hq1⟩ : ∃ q1, q1 = nq := ⟨_, rfl⟩
          subst hq1
          go_wp2_with fail
          go_quiet (fail)
          go_wp2_with fail
          obtain ⟨N0, M0, eN, eM, S8, hm8⟩ := (I.drewN (q1 + nq)).step hx
          rw [HR.out] at S8
          obtain ⟨W8, hW8⟩ : ∃ W8, ((wr.drewN (q1 + nq)).setCell ⟨g, (m + 1) * 4 + 2, none⟩ (.int .i64 ((s.i : Int) + 1))) = W8 := ⟨_, rfl⟩
          rw [hW8] at S8
          rw [hW8]
          have L8 := S8.low htg hov (by omega)
          have z0 := (World.cell?_of_block (L8.block s.b hS.lt)).trans y0
          have z1 := (World.cell?_of_block (L8.block s.b hS.lt)).trans y1
          have z2 := (World.cell?_of_block (L8.block s.b hS.lt)).trans y2
          have f0 : W8.cell? ⟨g, (m + 1) * 4, none⟩ = some (.slice (some ⟨s.b, s.off, none⟩) s.ls.length s.c) := by rw [← hW8]; exact (World.cell?_setCell_other _ _ _ _ (by simp)).trans a0
          have f1 : W8.cell? ⟨g, (m + 1) * 4 + 1, none⟩ = some (.bool true) := by rw [← hW8]; exact (World.cell?_setCell_other _ _ _ _ (by simp)).trans a1
          have f2 : W8.cell? ⟨g, (m + 1) * 4 + 2, none⟩ = some (.int .i64 ((s.i : Int) + 1)) := by rw [← hW8]; exact World.cell?_setCell_same _ _ _ (u := .int .i64 (s.i : Int)) a2
          clear hW8 a0 a1 a2 fz u2
          have e3 : ((s.i : Int) + 1 - 1) = (s.i : Int) := by omega
          have e4 : IntKind.i64.wrap ((s.i : Int) + 1 - 1) = (s.i : Int) := by rw [IntKind.wrap_i64]; omega
          have e4' : IntKind.i64.wrap (s.i : Int) = (s.i : Int) := by rw [IntKind.wrap_i64]; omega
          have e5 : (0 : Int) ≤ (s.i : Int) := by omega
          have e6 : (s.i : Int) < (s.ls.length : Int) := by omega
          have e7 : (s.i : Int) ≤ (s.ls.length : Int) := by omega
          have hc8 := tput_any tg s.b (s.off + s.i * 3) _ _ _ _ k' n' W8.drew S8.drew.blk z0 z1 z2
          have hpost := fun (w9 : World) (q : Nat) (hw9 : w9 = W8.drew.drewN q) => And.intro ((hw9 ▸ S8.drew.drewN q : TS w w9 B tg (.slice ao n0 cap) N0 M0 bsz met' ({ s with i := s.i + 1 } :: r) (.slice (some ⟨g, 0, none⟩) (m + 2) cp)).enter (by omega) hN' (by omega) (by omega)) (And.intro (show w9.cell? ⟨g, (m + 1) * 4, none⟩ = some (.slice (some ⟨s.b, s.off, none⟩) s.ls.length s.c) by rw [hw9]; exact f0) (And.intro (show w9.cell? ⟨g, (m + 1) * 4 + 1, none⟩ = some (.bool true) by rw [hw9]; exact f1) (show w9.cell? ⟨g, (m + 1) * 4 + 2, none⟩ = some (.int .i64 ((s.i : Int) + 1)) by rw [hw9]; exact f2)))
          go_region_law (first
            | (refine step_call33 (by rfl) 90 enter90 (.tmp 63) (.tmp 73) (.tmp 77) #[101, 117, 4] (by rfl) _ _ _ (by rfl) (by rfl) (by rfl) (hc8.mono ?_); rintro e w9 ⟨rfl, q, hw9⟩; refine ⟨_, rfl, ?_⟩; obtain ⟨hc9, k0, k1, k2⟩ := hpost w9 q hw9; clear hw9)
            | (refine step_call33 (by rfl) 89 enter89 (.tmp 62) (.tmp 79) (.tmp 80) #[101, 22, 4] (by rfl) _ _ _ (by rfl) (by rfl) (by rfl) (hc9.mono ?_); rintro e w10 ⟨rfl, met10, st10, v10, S10, hm10⟩; refine ⟨_, rfl, ?_⟩))
          all_goals
            have S11 : TS w w10 B tg (.slice ao n0 cap) (1 + Lv.sizes args) (met + Lv.sizes args) bsz met10 st10 v10 := by rw [eN, eM]; exact S10
            clear hc8 hc9
            go_wp2_with fail
            go_roundw
            case rel => exact ⟨bsz, met10, st10, v10, S11, by omega⟩
            case measure =>
              rw [← HM.out]
              exact Nat.lt_of_le_of_lt (leastOf_le ⟨bsz, met10, st10, v10, rfl, S11⟩) (by omega)
end Go.Proofs.YtbmijpjmdpdfkaaDoor
