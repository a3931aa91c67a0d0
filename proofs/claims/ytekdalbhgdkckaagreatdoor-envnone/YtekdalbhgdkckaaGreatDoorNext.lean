/- The walk of term's next. No condition but that what is open lies in memory, and that the tables hold what the program's text lays. -/
import Derived.Test.YtekdalbhgdkckaaGreatDoorNx
import Derived.Test.YtekdalbhgdkckaaGreatDoorApp
namespace Go.Proofs.YtekdalbhgdkckaaGreatDoor
open Go.RowKit

/-- Where the iterator is, in memory: its own struct at block g, its list of what is open. -/
structure WS (w : World) (base g : Nat) (f : Option Addr) (st : Stk) (v : Value) : Prop where
  blk : Blk w g 190 [.pointer f, v]
  row : w.ownsRow base 203 4 v st.length (Stk.cells st)

theorem info122 : ∃ i, Tryz.prog.info? 203 = some i ∧ i.zero = some (.agg #[.pointer none, .int .i64 0, .int .i64 0, .int .i64 0]) ∧ i.size = 4 ∧ i.bytes = 32 := by
  have h : (Tryz.prog.info? 203).map (fun i => (i.zero, i.size, i.bytes)) = some (some (.agg #[.pointer none, .int .i64 0, .int .i64 0, .int .i64 0]), 4, 32) := by kernel_rfl
  obtain ⟨i, hi, he⟩ := Option.map_eq_some_iff.1 h
  simp only [Prod.mk.injEq] at he
  exact ⟨i, hi, he⟩

theorem one_new (w : World) (l : List Value) (t : TypeId) : ∃ w1, w.alloc (.cells l.toArray t) = w1 ∧ Below w.heap.size w w1 ∧ Blk w1 w.heap.size t l ∧ w.heap.size < w1.heap.size :=
  ⟨_, rfl, (Below.refl _ _).alloc (Nat.le_refl _) _, Blk.new _ _ _, by simp⟩

theorem owns_ne {w : World} {base : Nat} {e t : TypeId} {size n g : Nat} {v : Value} {xs l : List Value} (h : w.ownsRow base e size v n xs) (hb : Blk w g t l) (hne : t ≠ e) : v.ownBlock ≠ some g := fun e' => by
  rcases h.2 with ⟨rfl, _⟩ | ⟨g', cap, cur, rfl, _, hcur, _⟩
  · cases e'
  · simp [Value.ownBlock] at e'
    subst e'
    unfold Blk at hb
    rw [hb] at hcur
    simp at hcur
    exact hne hcur.2

/-- One more is open. -/
theorem ws_push {w w5 w7 w8 : World} {base g R : Nat} {st : Stk} {p : Pt} {v v' x y z : Value} {S : Nat → Prop} (hk : Keep w w5 S) (hR : w.heap.size ≤ R) (hSg : S g) (hSv : ∀ k, v.ownBlock = some k → k < w.heap.size → S k)
    (X8 : Blk w8 g 190 [.pointer none, v]) (R8 : Blk w8 R 178 [x, y, z]) (hb7 : Below w5.heap.size w5 w7) (hg8 : w7.grownBy w8 v.ownBlock) {mm : Nat} (hmm : st.length = mm)
    (ho8 : w8.ownsRow base 203 4 v' (mm + 1) (Stk.cells st ++ [.pointer (some ⟨p.b, p.off, none⟩), .int .i64 (p.d : Int), .int .i64 (p.m : Int), .int .i64 0])) (c0 c1 c2 : Value) :
    WS ((((w8.setCell ⟨g, 1, none⟩ v').setCell ⟨R, 0, none⟩ c0).setCell ⟨R, 1, none⟩ c1).setCell ⟨R, 2, none⟩ c2) base g none ((p, 0) :: st) v' ∧ Keep w ((((w8.setCell ⟨g, 1, none⟩ v').setCell ⟨R, 0, none⟩ c0).setCell ⟨R, 1, none⟩ c1).setCell ⟨R, 2, none⟩ c2) S := by
  subst hmm
  have hgR : g ≠ R := fun e => by subst e; unfold Blk at X8 R8; rw [X8] at R8; cases R8
  have ng := owns_ne ho8 X8 (by decide)
  have nR := owns_ne ho8 R8 (by decide)
  have hk5 : Keep w w7 S := hk.low hb7 hk.size
  refine ⟨⟨?_, ?_⟩, ?_⟩
  · exact (((X8.set 1 v').other _ hgR).other _ hgR).other _ hgR
  · refine owns_block ho8 (fun k e => ?_)
    have h1 : k ≠ g := fun h => ng (by rw [e, h])
    have h2 : k ≠ R := fun h => nR (by rw [e, h])
    rw [Below.heap_setCell _ _ _ _ h2, Below.heap_setCell _ _ _ _ h2, Below.heap_setCell _ _ _ _ h2, Below.heap_setCell _ _ _ _ h1]
  · have k8 : Keep w w8 S := ⟨hg8.os.trans hk5.os, hg8.tape.trans hk5.tape, hg8.output.trans hk5.output, Nat.le_trans hk5.size hg8.size, fun k hk' hn => (hg8.block k (Nat.lt_of_lt_of_le hk' hk5.size) (fun e => hn (hSv k e.symm hk'))).trans (hk5.block k hk' hn)⟩
    exact (((k8.setCell (fun _ => hSg) _ _).setCell (fun h => by omega) _ _).setCell (fun h => by omega) _ _).setCell (fun h => by omega) _ _

/-- Nothing more is open. -/
theorem ws_same {w w5 : World} {base g R : Nat} {st : Stk} {v x y z : Value} {S : Nat → Prop} (hk : Keep w w5 S) (hR : w.heap.size ≤ R) (X5 : Blk w5 g 190 [.pointer none, v]) (R5 : Blk w5 R 178 [x, y, z])
    (ho : w5.ownsRow base 203 4 v st.length (Stk.cells st)) (c0 c1 c2 : Value) :
    WS (((w5.setCell ⟨R, 0, none⟩ c0).setCell ⟨R, 1, none⟩ c1).setCell ⟨R, 2, none⟩ c2) base g none st v ∧ Keep w (((w5.setCell ⟨R, 0, none⟩ c0).setCell ⟨R, 1, none⟩ c1).setCell ⟨R, 2, none⟩ c2) S := by
  have hgR : g ≠ R := fun e => by subst e; unfold Blk at X5 R5; rw [X5] at R5; cases R5
  have nR := owns_ne ho R5 (by decide)
  refine ⟨⟨?_, ?_⟩, ?_⟩
  · exact ((X5.other _ hgR).other _ hgR).other _ hgR
  · refine owns_block ho (fun k e => ?_)
    have h2 : k ≠ R := fun h => nR (by rw [e, h])
    rw [Below.heap_setCell _ _ _ _ h2, Below.heap_setCell _ _ _ _ h2, Below.heap_setCell _ _ _ _ h2]
  · exact ((hk.setCell (fun h => by omega) _ _).setCell (fun h => by omega) _ _).setCell (fun h => by omega) _ _

/-- What next tells, and leaves. -/
structure Nxt (w w' : World) (base g : Nat) (v : Value) (st' : Stk) : Prop where
  ws : ∃ v', WS w' base g none st' v' ∧ ∀ k, v'.ownBlock = some k → v.ownBlock = some k ∨ w.heap.size ≤ k
  keep : Keep w w' (fun k => k = g ∨ v.ownBlock = some k)

set_option maxRecDepth 100000 in
set_option maxHeartbeats 400000 in
theorem next_first (p : Pt) (hd : p.d = 1) (hm : p.m = 0) (g base : Nat) (w : World) (S : Nat → Prop) (hc : TCells w p.b p.off p.t) (hin : TIn w S p.t) (hne : p.b ≠ g) (hbase : base ≤ w.heap.size)
    (hW : WS w base g (some ⟨p.b, p.off, none⟩) [] (.slice none 0 0)) :
    Calls Tryz.prog 103 #[.pointer (some ⟨g, 0, none⟩)] w fun e w' => e = .returned (.tuple #[p.val, .bool true]) ∧ Nxt w w' base g (.slice none 0 0) (push p []) := by
  have hN := tin_iff.1 hin
  have hle := hN.le
  have hmx := hN.max
  obtain ⟨b, off, t, d, m⟩ := p
  simp only at *
  subst hd hm
  have c4 := hc.c4
  have hlb := hc.lt
  have hlg := hW.blk.lt
  have x0 := hW.blk.cell (j := 0) rfl
  have x1 := hW.blk.cell (j := 1) rfl
  have xf0 := hW.blk.frozen 0
  have xf1 := hW.blk.frozen 1
  unfold Pt.val
  simp only
  have n1 : b ≠ w.heap.size := by omega
  have n2 : g ≠ w.heap.size := by omega
  have n3 : w.heap.size ≠ g := by omega
  have n4 : w.heap.size ≠ b := by omega
  have K1 : Keep w w (fun k => k = g ∨ (Value.slice none 0 0).ownBlock = some k) := Keep.refl _ _
  by_cases h0 : t.args = []
  · have hlen : t.args.length = 0 := by simp [h0]
    have hp : push ⟨b, off, t, 1, 0⟩ [] = [] := if_pos h0
    rw [hp]
    rw [hlen] at c4
    obtain ⟨w1, hw1, hb1, R1, hs1⟩ := one_new w [.pointer none, .int .i64 0, .int .i64 0] 178
    have X1 := hW.blk.below hb1 hlg
    have y0 := X1.cell (j := 0) rfl
    have y1 := X1.cell (j := 1) rfl
    go_enter Tryz.func103, Tryz.ntmps103
    go_wp2_with (go_at_call 120; refine (root_any b off w1).mono ?_; rintro e w2 ⟨rfl, hb2⟩; have R2 := R1.below hb2 R1.lt; have X2 := X1.below hb2 X1.lt; have r0 := R2.cell (j := 0) rfl; have r1 := R2.cell (j := 1) rfl; have r2 := R2.cell (j := 2) rfl; have rf0 := R2.frozen 0; have rf1 := R2.frozen 1; have rf2 := R2.frozen 2; have z0 := X2.cell (j := 0) rfl; have z1 := X2.cell (j := 1) rfl; have zf0 := X2.frozen 0; have zf1 := X2.frozen 1; have C4 := ((bcell hb2).1 b (off + 4) (by omega)).trans (((bcell hb1).1 b (off + 4) hlb).trans c4))
    obtain ⟨w5, hw5, K5⟩ : ∃ w5, (((w2.setCell ⟨w.heap.size, 0, none⟩ (.pointer (some ⟨b, off, none⟩))).setCell ⟨w.heap.size, 1, none⟩ (.int .i64 1)).setCell ⟨w.heap.size, 2, none⟩ (.int .i64 0)).setCell ⟨g, 0, none⟩ (.pointer none) = w5 ∧ Keep w2 w5 (fun k => k = w.heap.size ∨ k = g) := ⟨_, rfl, ((st3 R2 _ _ _).2.mono (fun _ h => .inl h)).setCell (fun _ => .inr rfl) _ _⟩
    have R5 : Blk w5 w.heap.size 178 [.pointer (some ⟨b, off, none⟩), .int .i64 1, .int .i64 0] := by rw [← hw5]; exact (st3 R2 _ _ _).1.other _ n3
    have X5 : Blk w5 g 190 [.pointer none, .slice none 0 0] := by rw [← hw5]; exact (X2.keep (st3 R2 _ _ _).2 n2).set 0 _
    have K6 : Keep w w5 (fun k => k = g ∨ (Value.slice none 0 0).ownBlock = some k) := ((K1.low hb1 (by omega)).low hb2 (by omega)).trans K5 (fun i hi h => h.elim (fun e => by omega) .inl)
    obtain ⟨F1, F2⟩ := ws_same (st := []) (base := base) K6 (Nat.le_refl _) X5 R5 ⟨rfl, .inl ⟨rfl, rfl⟩⟩ (.pointer (some ⟨b, off, none⟩)) (.int .i64 1) (.int .i64 0)
    have R9 := (st3 R5 (.pointer (some ⟨b, off, none⟩)) (.int .i64 1) (.int .i64 0)).1
    rw [← hw5] at F1 F2 R9
    have s0 := R9.cell (j := 0) rfl
    have s1 := R9.cell (j := 1) rfl
    have s2 := R9.cell (j := 2) rfl
    exact bodyPost_ret (v := .tuple #[.agg #[.pointer (some ⟨b, off, none⟩), .int .i64 1, .int .i64 0], .bool true]) (by simp [results, Tryz.results103, go_sem, s0, s1, s2]) rfl ⟨rfl, ⟨_, F1, fun k e => by cases e⟩, F2⟩
  · have hpos : 0 < t.args.length := List.length_pos_iff.2 h0
    generalize t.args.length = len at *
    generalize t.c = cap at *
    generalize t.a = ta at *
    have hp : push ⟨b, off, t, 1, 0⟩ [] = [(⟨b, off, t, 1, 0⟩, 0)] := if_neg h0
    rw [hp]
    obtain ⟨w1, hw1, hb1, R1, hs1⟩ := one_new w [.pointer none, .int .i64 0, .int .i64 0] 178
    have X1 := hW.blk.below hb1 hlg
    have y0 := X1.cell (j := 0) rfl
    have y1 := X1.cell (j := 1) rfl
    go_enter Tryz.func103, Tryz.ntmps103
    go_wp2_with (go_at_call 120; refine (root_any b off w1).mono ?_; rintro e w2 ⟨rfl, hb2⟩; have R2 := R1.below hb2 R1.lt; have X2 := X1.below hb2 X1.lt; have r0 := R2.cell (j := 0) rfl; have r1 := R2.cell (j := 1) rfl; have r2 := R2.cell (j := 2) rfl; have rf0 := R2.frozen 0; have rf1 := R2.frozen 1; have rf2 := R2.frozen 2; have z0 := X2.cell (j := 0) rfl; have z1 := X2.cell (j := 1) rfl; have zf0 := X2.frozen 0; have zf1 := X2.frozen 1; have C4 := ((bcell hb2).1 b (off + 4) (by omega)).trans (((bcell hb1).1 b (off + 4) hlb).trans c4))
    obtain ⟨i122, hi122, hz122, hs122, hb122⟩ := info122
    obtain ⟨w5, hw5, K5⟩ : ∃ w5, (((w2.setCell ⟨w.heap.size, 0, none⟩ (.pointer (some ⟨b, off, none⟩))).setCell ⟨w.heap.size, 1, none⟩ (.int .i64 1)).setCell ⟨w.heap.size, 2, none⟩ (.int .i64 0)).setCell ⟨g, 0, none⟩ (.pointer none) = w5 ∧ Keep w2 w5 (fun k => k = w.heap.size ∨ k = g) := ⟨_, rfl, ((st3 R2 _ _ _).2.mono (fun _ h => .inl h)).setCell (fun _ => .inr rfl) _ _⟩
    have R5 : Blk w5 w.heap.size 178 [.pointer (some ⟨b, off, none⟩), .int .i64 1, .int .i64 0] := by rw [← hw5]; exact (st3 R2 _ _ _).1.other _ n3
    have X5 : Blk w5 g 190 [.pointer none, .slice none 0 0] := by rw [← hw5]; exact (X2.keep (st3 R2 _ _ _).2 n2).set 0 _
    have K6 : Keep w w5 (fun k => k = g ∨ (Value.slice none 0 0).ownBlock = some k) := ((K1.low hb1 (by omega)).low hb2 (by omega)).trans K5 (fun i hi h => h.elim (fun e => by omega) .inl)
    rw [hw5]
    clear hw5 R2 X2 r0 r1 r2 rf0 rf1 rf2 z0 z1 zf0 zf1 y0 y1 x0 x1 xf0 xf1 X1 R1 hw1
    have hs5 := K5.size
    have hs2 := hb2.size
    obtain ⟨w7, hw7, hb7, X7, hs7⟩ := one_new w5.drew [.pointer (some ⟨b, off, none⟩), .int .i64 1, .int .i64 0, .int .i64 0] 203
    have r0 := R5.cell (j := 0) rfl
    have r1 := R5.cell (j := 1) rfl
    have r2 := R5.cell (j := 2) rfl
    have z1 := X5.cell (j := 1) rfl
    have R7 := R5.drew.below hb7 R5.lt
    have Z7 := X5.drew.below hb7 X5.lt
    have t0 := R7.cell (j := 0) rfl
    have t1 := R7.cell (j := 1) rfl
    have t2 := R7.cell (j := 2) rfl
    have t3 := Z7.cell (j := 1) rfl
    have hz5 : w5.drew.heap.size = w5.heap.size := rfl
    go_region_law (refine step_append_own (by rfl) (.tmp 86) (.tmp 89) 188 (by rfl) base 203 i122 _ 4 32 Tryz.underlying188 hi122 hz122 hs122 hb122 (by rfl) (by decide) (.slice none 0 0) 0 [] (by rfl) ⟨rfl, .inl ⟨rfl, rfl⟩⟩ ⟨w5.heap.size, 0, none⟩ 1 1 [.pointer (some ⟨b, off, none⟩), .int .i64 1, .int .i64 0, .int .i64 0] (by rfl) (by rfl) (fun i u hu => by rw [Addr.add_lit, Nat.zero_add]; exact X7.cell hu) (by simp [Value.oneCell']) (by decide) (by decide) (by omega) (by decide) ?_; intro v' w8 ho8 hg8 hn8; obtain ⟨g', c', rfl, hg'1, hg'2, hg'3, hg'4⟩ := owns_shape ho8 (by omega); have hg9 : g < w7.heap.size := Z7.lt; have hr9 : w.heap.size < w7.heap.size := R7.lt; have Z8 := Z7.carry (hg8.block g hg9 (fun e => by cases e)); have R8 := R7.carry (hg8.block w.heap.size hr9 (fun e => by cases e)); have l5 := Z8.cell (j := 1) rfl; have l6 := Z8.frozen 1; have u0 := R8.cell (j := 0) rfl; have u1 := R8.cell (j := 1) rfl; have u2 := R8.cell (j := 2) rfl; have uf0 := R8.frozen 0; have uf1 := R8.frozen 1; have uf2 := R8.frozen 2)
    all_goals
      go_wp2_with fail
      obtain ⟨F1, F2⟩ := ws_push (st := []) (p := ⟨b, off, t, 1, 0⟩) K6 (Nat.le_refl _) (.inl rfl) (fun k e _ => by cases e) Z8 R8 (Below.trans (Below.refl _ _).drew hb7) hg8 (mm := 0) rfl ho8 (.pointer (some ⟨b, off, none⟩)) (.int .i64 1) (.int .i64 0)
      have R9 := (st3 (R8.other (j := 1) (Value.slice (some ⟨g', 0, none⟩) 1 c') n3) (.pointer (some ⟨b, off, none⟩)) (.int .i64 1) (.int .i64 0)).1
      have s0 := R9.cell (j := 0) rfl
      have s1 := R9.cell (j := 1) rfl
      have s2 := R9.cell (j := 2) rfl
      exact bodyPost_ret (v := .tuple #[.agg #[.pointer (some ⟨b, off, none⟩), .int .i64 1, .int .i64 0], .bool true]) (by simp [results, Tryz.results103, go_sem, s0, s1, s2]) rfl ⟨rfl, ⟨_, F1, fun k e => by rcases hn8 with h | ⟨k', h, h2⟩; (rw [h] at e; cases e); (rw [h] at e; cases e; exact .inr (by omega))⟩, F2⟩

set_option maxRecDepth 100000 in
set_option maxHeartbeats 400000 in
theorem next_none (g base : Nat) (w : World) (v : Value) (hW : WS w base g none [] v) :
    Calls Tryz.prog 103 #[.pointer (some ⟨g, 0, none⟩)] w fun e w' => e = .returned (.tuple #[.agg #[.pointer none, .int .i64 0, .int .i64 0], .bool false]) ∧ Below w.heap.size w w' := by
  have hlg := hW.blk.lt
  obtain ⟨oa, oc, rfl⟩ : ∃ oa oc, v = .slice oa 0 oc := by
    rcases hW.row.2 with ⟨rfl, _⟩ | ⟨_, _, _, rfl, _⟩ <;> exact ⟨_, _, rfl⟩
  obtain ⟨w1, hw1, hb1, R1, hs1⟩ := one_new w [.pointer none, .int .i64 0, .int .i64 0] 178
  have X1 := hW.blk.below hb1 hlg
  have y0 := X1.cell (j := 0) rfl
  have y1 := X1.cell (j := 1) rfl
  have r0 := R1.cell (j := 0) rfl
  have r1 := R1.cell (j := 1) rfl
  have r2 := R1.cell (j := 2) rfl
  have rf0 := R1.frozen 0
  have rf1 := R1.frozen 1
  have rf2 := R1.frozen 2
  obtain ⟨R9, K9⟩ := st3 R1 (.pointer none) (.int .i64 0) (.int .i64 0)
  have s0 := R9.cell (j := 0) rfl
  have s1 := R9.cell (j := 1) rfl
  have s2 := R9.cell (j := 2) rfl
  go_enter Tryz.func103, Tryz.ntmps103
  go_wp2_with fail
  exact bodyPost_ret (v := .tuple #[.agg #[.pointer none, .int .i64 0, .int .i64 0], .bool false]) (by simp [results, Tryz.results103, go_sem, s0, s1, s2]) rfl ⟨rfl, hb1.trans (K9.below (by omega) (by omega))⟩

theorem cells_get (p : Pt) (j : Nat) (st : Stk) (i : Nat) (u : Value) (h : [Value.pointer (some ⟨p.b, p.off, none⟩), .int .i64 (p.d : Int), .int .i64 (p.m : Int), .int .i64 (j : Int)][i]? = some u) : (Stk.cells ((p, j) :: st))[st.length * 4 + i]? = some u := by
  rw [Stk.cells, List.getElem?_append_right (by rw [Stk.cells_len]; omega), Stk.cells_len, Nat.add_sub_cancel_left]; exact h

theorem cells_set (p : Pt) (j : Nat) (st : Stk) : (Stk.cells ((p, j) :: st)).set (st.length * 4 + 3) (.int .i64 ((j : Int) + 1)) = Stk.cells ((p, j + 1) :: st) := by
  rw [Stk.cells, Stk.cells, List.set_append_right _ _ (by rw [Stk.cells_len]; omega), Stk.cells_len, Nat.add_sub_cancel_left]
  simp

theorem enter83 (args : Array Value) (w : World) : (callFunc 121 args).run Tryz.prog w = .ok (.enter 121 args) w := enter_of Tryz.func121 (by kernel_rfl) rfl args w

set_option maxRecDepth 100000 in
set_option maxHeartbeats 4000000 in
theorem next_top (p : Pt) (j : Nat) (st : Stk) (T : Tr) (hT : p.t.args[j]? = some T) (hd : p.d ≤ 1073741824) (hm : p.m ≤ 1073741824) (g base B : Nat) (w : World) (hTab : Tabs w) (hc : TCells w p.b p.off p.t) (hin : TIn w (· < B) p.t) (hne : p.b ≠ g) (_hbase : base ≤ w.heap.size) (hB : B ≤ w.heap.size) (hBg : B ≤ g)
    (v : Value) (hW : WS w base g none ((p, j) :: st) v) (hl : st.length ≤ 1048576) (hpo : ∀ k, v.ownBlock = some k → k ≠ p.b ∧ B ≤ k) :
    Calls Tryz.prog 103 #[.pointer (some ⟨g, 0, none⟩)] w fun e w' => e = .returned (.tuple #[(p.kid j T).val, .bool true]) ∧ Nxt w w' base g v (push (p.kid j T) (took p j st)) := by
  have hlg := hW.blk.lt
  have hjl : j < p.t.args.length := (List.getElem?_eq_some_iff.1 hT).1
  have hN := tin_iff.1 hin
  have hle := hN.le
  have hmx := hN.max
  have hget := hin.get hT
  have hlT := hget.2.2.1.lt
  have hlb := hc.lt
  obtain ⟨og, oc, rfl, ho1, ho2, ho3, ho4⟩ := owns_shape hW.row (by simp)
  have hgo := owns_ne hW.row hW.blk (by decide)
  simp only [Value.ownBlock, ne_eq, Option.some.injEq] at hgo
  have hpb := hpo og rfl
  simp only [List.length_cons] at *
  have cc : ∀ i u, [Value.pointer (some ⟨p.b, p.off, none⟩), .int .i64 (p.d : Int), .int .i64 (p.m : Int), .int .i64 (j : Int)][i]? = some u → w.cell? ⟨og, st.length * 4 + i, none⟩ = some u := fun i u h => by
    obtain ⟨g', e, _, _, _, _, h5⟩ := owns_cell hW.row (cells_get p j st i u h)
    simp only [Option.some.injEq, Addr.mk.injEq, and_true] at e
    rw [e]; exact h5
  have o0 := cc 0 _ rfl
  have o1 := cc 1 _ rfl
  have o2 := cc 2 _ rfl
  have o3 := cc 3 _ rfl
  rw [Nat.add_zero] at o0
  have of3 := owns_frozen hW.row (st.length * 4 + 3)
  have c4 := hc.c4
  have n1 : og ≠ w.heap.size := by omega
  have n2 : g ≠ w.heap.size := by omega
  have n3 : w.heap.size ≠ g := by omega
  have n4 : w.heap.size ≠ og := by omega
  have n5 : p.b ≠ w.heap.size := by omega
  have n6 : w.heap.size ≠ p.b := by omega
  obtain ⟨w1, hw1, hb1, R1, hs1⟩ := one_new w [.pointer none, .int .i64 0, .int .i64 0] 178
  have X1 := hW.blk.below hb1 hlg
  have y0 := X1.cell (j := 0) rfl
  have y1 := X1.cell (j := 1) rfl
  have O0 := ((bcell hb1).1 og _ ho2).trans o0
  have O1 := ((bcell hb1).1 og _ ho2).trans o1
  have O2 := ((bcell hb1).1 og _ ho2).trans o2
  have O3 := ((bcell hb1).1 og _ ho2).trans o3
  have hcall := arg_any p j T w1.drew (· < B) ((hTab.on hb1).carry (fun _ _ => rfl)) ((hc.carry (hb1.block _ hlb)).carry rfl) (hin.below hb1 hB).drew hT hd hm
  have hbT := hget.2.1
  have hkc := hget.2.2.1
  have hrow := hW.row
  simp only [List.length_cons] at hrow
  obtain ⟨kb, koff, kd, km, hK, rfl, rfl⟩ : ∃ kb koff kd km, p.kid j T = ⟨kb, koff, T, kd, km⟩ ∧ kb = p.t.b ∧ koff = p.t.off + j * 5 := ⟨_, _, _, _, rfl, rfl, rfl⟩
  rw [hK] at hcall ⊢
  generalize p.t.off + j * 5 = koff at *
  generalize p.t.b = kb at *
  have k4 := hkc.c4
  clear hK hget
  simp only [Pt.val] at hcall ⊢
  obtain ⟨sf, HSF⟩ : ∃ sf, Hid (push ⟨kb, koff, T, kd, km⟩ (took p j st) = sf) := ⟨_, rfl⟩
  rw [HSF.out]
  generalize hnn : st.length = n at *
  go_enter Tryz.func103, Tryz.ntmps103
  go_wp2_with fail
  go_region_law (refine step_call (by rfl) 121 enter83 (.tmp 39) (.tmp 43) #[178, 3] (by rfl) _ _ (by rfl) (by rfl) (hcall.mono ?_); rintro e w2 ⟨rfl, hb2'⟩; refine ⟨_, rfl, ?_⟩; have hb2 : Below w1.heap.size w1 w2 := Below.trans (Below.refl _ _).drew hb2'; have R2 := R1.below hb2 R1.lt; have X2 := X1.below hb2 X1.lt; have r0 := R2.cell (j := 0) rfl; have r1 := R2.cell (j := 1) rfl; have r2 := R2.cell (j := 2) rfl; have rf0 := R2.frozen 0; have rf1 := R2.frozen 1; have rf2 := R2.frozen 2; have Q3 := ((bcell hb2).1 og _ (by omega)).trans O3; have Qf := ((bcell hb2).2 og (n * 4 + 3) (by omega)).trans (((bcell hb1).2 og (n * 4 + 3) ho2).trans of3))
  all_goals
    go_wp2_with fail
    obtain ⟨w5, hw5, K5⟩ : ∃ w5, (((w2.setCell ⟨w.heap.size, 0, none⟩ (.pointer (some ⟨kb, koff, none⟩))).setCell ⟨w.heap.size, 1, none⟩ (.int .i64 (kd : Int))).setCell ⟨w.heap.size, 2, none⟩ (.int .i64 (km : Int))).setCell ⟨og, n * 4 + 3, none⟩ (.int .i64 ((j : Int) + 1)) = w5 ∧ Keep w2 w5 (fun k => k = w.heap.size ∨ k = og) := ⟨_, rfl, ((st3 R2 _ _ _).2.mono (fun _ h => .inl h)).setCell (fun _ => .inr rfl) _ _⟩
    have R5 : Blk w5 w.heap.size 178 [.pointer (some ⟨kb, koff, none⟩), .int .i64 (kd : Int), .int .i64 (km : Int)] := by rw [← hw5]; exact (st3 R2 _ _ _).1.other _ n4
    have X5 : Blk w5 g 190 [.pointer none, .slice (some ⟨og, 0, none⟩) (n + 1) oc] := X2.keep K5 (fun h => h.elim n2 (fun e => hgo e.symm))
    have row5 : w5.ownsRow base 203 4 (.slice (some ⟨og, 0, none⟩) (n + 1) oc) (n + 1) (Stk.cells ((p, j + 1) :: st)) := by
      have h2 : w2.ownsRow base 203 4 (.slice (some ⟨og, 0, none⟩) (n + 1) oc) (n + 1) (Stk.cells ((p, j) :: st)) := owns_below (owns_below hrow hb1) hb2
      have h3 : (((w2.setCell ⟨w.heap.size, 0, none⟩ (.pointer (some ⟨kb, koff, none⟩))).setCell ⟨w.heap.size, 1, none⟩ (.int .i64 (kd : Int))).setCell ⟨w.heap.size, 2, none⟩ (.int .i64 (km : Int))).ownsRow base 203 4 (.slice (some ⟨og, 0, none⟩) (n + 1) oc) (n + 1) (Stk.cells ((p, j) :: st)) :=
        owns_block h2 (fun k e => by cases e; exact (st3 R2 _ _ _).2.block og (by have := hb2.size; omega) n1)
      have := owns_set h3 (n * 4 + 3) (.int .i64 ((j : Int) + 1))
      rw [← hnn, cells_set, hnn, hw5] at this
      exact this
    have hs2 := hb2.size
    have hs5 := K5.size
    have K6 : Keep w w5 (fun k => k = g ∨ (Value.slice (some ⟨og, 0, none⟩) (n + 1) oc).ownBlock = some k) := (((Keep.refl w _).low hb1 (by omega)).low hb2 (by omega)).trans K5 (fun i hi h => h.elim (fun e => by omega) (fun e => .inr (by rw [e]; rfl)))
    have low : ∀ b o, b < w.heap.size → b ≠ og → w5.cell? ⟨b, o, none⟩ = w.cell? ⟨b, o, none⟩ := fun b o hb hn => (World.cell?_of_block (w := w2) (K5.block b (by omega) (fun h => h.elim (by omega) hn))).trans (((bcell hb2).1 b o (by omega)).trans ((bcell hb1).1 b o hb))
    have C4 := (low p.b (p.off + 4) hlb (fun e => hpb.1 e.symm)).trans c4
    have D4 := (low kb (koff + 4) hlT (by omega)).trans k4
    have E0 := (owns_cell row5 (cells_get p (j + 1) st 0 _ rfl))
    have E3 := (owns_cell row5 (cells_get p (j + 1) st 3 _ rfl))
    obtain ⟨og', e', _, _, _, _, E0⟩ := E0
    obtain ⟨og'', e'', _, _, _, _, E3⟩ := E3
    simp only [Option.some.injEq, Addr.mk.injEq, and_true] at e' e''
    subst e' e''
    rw [hnn, Nat.add_zero] at E0
    rw [hnn] at E3
    rw [hw5]
    clear hw5 R2 X2 r0 r1 r2 rf0 rf1 rf2 Q3 Qf y0 y1 X1 R1 hw1 O0 O1 O2 O3 o0 o1 o2 o3 of3 hcall hb2'
    have r0 := R5.cell (j := 0) rfl
    have r1 := R5.cell (j := 1) rfl
    have r2 := R5.cell (j := 2) rfl
    have rf0 := R5.frozen 0
    have rf1 := R5.frozen 1
    have rf2 := R5.frozen 2
    have z1 := X5.cell (j := 1) rfl
    have zf1 := X5.frozen 1
    generalize hlen : p.t.args.length = len at *
    obtain ⟨i122, hi122, hz122, hs122, hb122⟩ := info122
    by_cases hlast : j + 1 = len
    · have hq : ((j : Int) + 1 == (len : Int)) = true := by simp; omega
      have htk : took p j st = st := if_pos (by omega)
      by_cases hT0 : T.args = []
      · have hp : push ⟨kb, koff, T, kd, km⟩ st = st := if_pos hT0
        have hsf : sf = _ := HSF.out.symm.trans ((congrArg _ htk).trans hp)
        clear HSF
        have hT1 : T.args.length = 0 := by simp [hT0]
        rw [hT1] at D4
        go_quiet (fail)
        go_wp2_with fail
        obtain ⟨w6, hw6, K7⟩ : ∃ w6, (w5.drewN nq).setCell ⟨g, 1, none⟩ (.slice (some ⟨og, 0, none⟩) n oc) = w6 ∧ Keep w w6 (fun k => k = g ∨ (Value.slice (some ⟨og, 0, none⟩) (n + 1) oc).ownBlock = some k) := ⟨_, rfl, (K6.drewN _).setCell (fun _ => .inl rfl) _ _⟩
        have X6 : Blk w6 g 190 [.pointer none, (.slice (some ⟨og, 0, none⟩) n oc)] := by rw [← hw6]; exact (X5.drewN _).set 1 _
        have R6 : Blk w6 w.heap.size 178 [.pointer (some ⟨kb, koff, none⟩), .int .i64 (kd : Int), .int .i64 (km : Int)] := by rw [← hw6]; exact (R5.drewN _).other _ n3
        have row6 : w6.ownsRow base 203 4 (.slice (some ⟨og, 0, none⟩) n oc) n (Stk.cells st) := by
          rw [← hw6]
          exact owns_block (owns_cut (w := w5.drewN nq) (ys := [_, _, _, _]) (by have h := row5; rw [Stk.cells] at h; exact owns_block h (fun _ _ => rfl)) (by rw [Stk.cells_len, hnn]) (by omega)) (fun k e => by cases e; exact Below.heap_setCell _ _ _ _ (fun e => hgo e))
        have hM : st.length = n := by exact hnn
        have row6' : w6.ownsRow base 203 4 (.slice (some ⟨og, 0, none⟩) n oc) st.length (Stk.cells st) := by rw [hM]; exact row6
        obtain ⟨F1, F2⟩ := ws_same (st := st) (base := base) K7 (Nat.le_refl _) X6 R6 row6' (.pointer (some ⟨kb, koff, none⟩)) (.int .i64 (kd : Int)) (.int .i64 (km : Int))
        have R9 := (st3 R6 (.pointer (some ⟨kb, koff, none⟩)) (.int .i64 (kd : Int)) (.int .i64 (km : Int))).1
        rw [← hw6] at F1 F2 R9
        have s0 := R9.cell (j := 0) rfl
        have s1 := R9.cell (j := 1) rfl
        have s2 := R9.cell (j := 2) rfl
        exact bodyPost_ret (v := .tuple #[.agg #[.pointer (some ⟨kb, koff, none⟩), .int .i64 (kd : Int), .int .i64 (km : Int)], .bool true]) (by simp [results, Tryz.results103, go_sem, s0, s1, s2]) rfl ⟨rfl, by rw [hsf]; exact ⟨⟨_, F1, fun k e => .inl e⟩, F2⟩⟩
      · have hp : push ⟨kb, koff, T, kd, km⟩ st = (⟨kb, koff, T, kd, km⟩, 0) :: st := if_neg hT0
        have hsf : sf = _ := HSF.out.symm.trans ((congrArg _ htk).trans hp)
        clear HSF
        have hT1 : 0 < T.args.length := List.length_pos_iff.2 hT0
        go_quiet (fail)
        go_wp2_with fail
        obtain ⟨w6, hw6, K7⟩ : ∃ w6, (w5.drewN nq).setCell ⟨g, 1, none⟩ (.slice (some ⟨og, 0, none⟩) n oc) = w6 ∧ Keep w w6 (fun k => k = g ∨ (Value.slice (some ⟨og, 0, none⟩) (n + 1) oc).ownBlock = some k) := ⟨_, rfl, (K6.drewN _).setCell (fun _ => .inl rfl) _ _⟩
        have X6 : Blk w6 g 190 [.pointer none, (.slice (some ⟨og, 0, none⟩) n oc)] := by rw [← hw6]; exact (X5.drewN _).set 1 _
        have R6 : Blk w6 w.heap.size 178 [.pointer (some ⟨kb, koff, none⟩), .int .i64 (kd : Int), .int .i64 (km : Int)] := by rw [← hw6]; exact (R5.drewN _).other _ n3
        have row6 : w6.ownsRow base 203 4 (.slice (some ⟨og, 0, none⟩) n oc) n (Stk.cells st) := by
          rw [← hw6]
          exact owns_block (owns_cut (w := w5.drewN nq) (ys := [_, _, _, _]) (by have h := row5; rw [Stk.cells] at h; exact owns_block h (fun _ _ => rfl)) (by rw [Stk.cells_len, hnn]) (by omega)) (fun k e => by cases e; exact Below.heap_setCell _ _ _ _ (fun e => hgo e))
        have hM : st.length = n := by exact hnn
        rw [hw6]
        clear hw6
        obtain ⟨w7, hw7, hb7, X7, hs7⟩ := one_new w6.drew [.pointer (some ⟨kb, koff, none⟩), .int .i64 (kd : Int), .int .i64 (km : Int), .int .i64 0] 203
        have R7 := R6.drew.below hb7 R6.lt
        have Z7 := X6.drew.below hb7 X6.lt
        have t0 := R7.cell (j := 0) rfl
        have t1 := R7.cell (j := 1) rfl
        have t2 := R7.cell (j := 2) rfl
        have t3 := Z7.cell (j := 1) rfl
        have hz5 : w6.drew.heap.size = w6.heap.size := rfl
        have hs6 := K7.size
        have a0 := R6.cell (j := 0) rfl
        have a1 := R6.cell (j := 1) rfl
        have a2 := R6.cell (j := 2) rfl
        have a3 := X6.cell (j := 1) rfl
        clear r0 r1 r2 rf0 rf1 rf2 z1 zf1 E0 E3 C4 D4
        go_region_law (refine step_append_own (by rfl) (.tmp 86) (.tmp 89) 188 (by rfl) base 203 i122 _ 4 32 Tryz.underlying188 hi122 hz122 hs122 hb122 (by rfl) (by decide) (.slice (some ⟨og, 0, none⟩) n oc) n (Stk.cells st) (by rfl) (owns_below (w := w6.drew) row6 hb7) ⟨w6.heap.size, 0, none⟩ 1 1 [.pointer (some ⟨kb, koff, none⟩), .int .i64 (kd : Int), .int .i64 (km : Int), .int .i64 0] (by rfl) (by rfl) (fun i u hu => by rw [Addr.add_lit, Nat.zero_add]; exact X7.cell hu) (by simp [Value.oneCell']) (by unfold maxLen; omega) (by omega) (by omega) (by decide) ?_; intro v' w8 ho8 hg8 hn8; obtain ⟨g', c', rfl, hg'1, hg'2, hg'3, hg'4⟩ := owns_shape ho8 (by omega); have hg9 : g < w7.heap.size := Z7.lt; have hr9 : w.heap.size < w7.heap.size := R7.lt; have Z8 := Z7.carry (hg8.block g hg9 (fun e => by cases e; exact hgo rfl)); have R8 := R7.carry (hg8.block w.heap.size hr9 (fun e => by cases e; exact n1 rfl)); have l5 := Z8.cell (j := 1) rfl; have l6 := Z8.frozen 1; have u0 := R8.cell (j := 0) rfl; have u1 := R8.cell (j := 1) rfl; have u2 := R8.cell (j := 2) rfl; have uf0 := R8.frozen 0; have uf1 := R8.frozen 1; have uf2 := R8.frozen 2)
        all_goals
          go_wp2_with fail
          obtain ⟨F1, F2⟩ := ws_push (v := .slice (some ⟨og, 0, none⟩) n oc) (st := st) (p := ⟨kb, koff, T, kd, km⟩) K7 (Nat.le_refl _) (.inl rfl) (fun k e _ => .inr e) Z8 R8 (Below.trans (Below.refl _ _).drew hb7) hg8 hM ho8 (.pointer (some ⟨kb, koff, none⟩)) (.int .i64 (kd : Int)) (.int .i64 (km : Int))
          have R9 := (st3 (R8.other (j := 1) (Value.slice (some ⟨g', 0, none⟩) (n + 1) c') n3) (.pointer (some ⟨kb, koff, none⟩)) (.int .i64 (kd : Int)) (.int .i64 (km : Int))).1
          have s0 := R9.cell (j := 0) rfl
          have s1 := R9.cell (j := 1) rfl
          have s2 := R9.cell (j := 2) rfl
          exact bodyPost_ret (v := .tuple #[.agg #[.pointer (some ⟨kb, koff, none⟩), .int .i64 (kd : Int), .int .i64 (km : Int)], .bool true]) (by simp [results, Tryz.results103, go_sem, s0, s1, s2]) rfl ⟨rfl, by rw [hsf]; exact ⟨⟨_, F1, fun k e => by rcases hn8 with h | ⟨k', h, h2⟩; (rw [h] at e; exact .inl e); (rw [h] at e; cases e; exact .inr (by omega))⟩, F2⟩⟩
    · have hq : ((j : Int) + 1 == (len : Int)) = false := by simp; omega
      have htk : took p j st = ((p, j + 1) :: st) := if_neg (by omega)
      by_cases hT0 : T.args = []
      · have hp : push ⟨kb, koff, T, kd, km⟩ ((p, j + 1) :: st) = ((p, j + 1) :: st) := if_pos hT0
        have hsf : sf = _ := HSF.out.symm.trans ((congrArg _ htk).trans hp)
        clear HSF
        have hT1 : T.args.length = 0 := by simp [hT0]
        rw [hT1] at D4
        go_quiet (fail)
        go_wp2_with fail
        obtain ⟨w6, hw6, K7⟩ : ∃ w6, w5.drewN nq = w6 ∧ Keep w w6 (fun k => k = g ∨ (Value.slice (some ⟨og, 0, none⟩) (n + 1) oc).ownBlock = some k) := ⟨_, rfl, K6.drewN _⟩
        have X6 : Blk w6 g 190 [.pointer none, (.slice (some ⟨og, 0, none⟩) (n + 1) oc)] := by rw [← hw6]; exact X5.drewN _
        have R6 : Blk w6 w.heap.size 178 [.pointer (some ⟨kb, koff, none⟩), .int .i64 (kd : Int), .int .i64 (km : Int)] := by rw [← hw6]; exact R5.drewN _
        have row6 : w6.ownsRow base 203 4 (.slice (some ⟨og, 0, none⟩) (n + 1) oc) (n + 1) (Stk.cells ((p, j + 1) :: st)) := by
          rw [← hw6]
          exact owns_block row5 (fun _ _ => rfl)
        have hM : ((p, j + 1) :: st).length = (n + 1) := by simp [hnn]
        have row6' : w6.ownsRow base 203 4 (.slice (some ⟨og, 0, none⟩) (n + 1) oc) ((p, j + 1) :: st).length (Stk.cells ((p, j + 1) :: st)) := by rw [hM]; exact row6
        obtain ⟨F1, F2⟩ := ws_same (st := ((p, j + 1) :: st)) (base := base) K7 (Nat.le_refl _) X6 R6 row6' (.pointer (some ⟨kb, koff, none⟩)) (.int .i64 (kd : Int)) (.int .i64 (km : Int))
        have R9 := (st3 R6 (.pointer (some ⟨kb, koff, none⟩)) (.int .i64 (kd : Int)) (.int .i64 (km : Int))).1
        rw [← hw6] at F1 F2 R9
        have s0 := R9.cell (j := 0) rfl
        have s1 := R9.cell (j := 1) rfl
        have s2 := R9.cell (j := 2) rfl
        exact bodyPost_ret (v := .tuple #[.agg #[.pointer (some ⟨kb, koff, none⟩), .int .i64 (kd : Int), .int .i64 (km : Int)], .bool true]) (by simp [results, Tryz.results103, go_sem, s0, s1, s2]) rfl ⟨rfl, by rw [hsf]; exact ⟨⟨_, F1, fun k e => .inl e⟩, F2⟩⟩
      · have hp : push ⟨kb, koff, T, kd, km⟩ ((p, j + 1) :: st) = (⟨kb, koff, T, kd, km⟩, 0) :: ((p, j + 1) :: st) := if_neg hT0
        have hsf : sf = _ := HSF.out.symm.trans ((congrArg _ htk).trans hp)
        clear HSF
        have hT1 : 0 < T.args.length := List.length_pos_iff.2 hT0
        go_quiet (fail)
        go_wp2_with fail
        obtain ⟨w6, hw6, K7⟩ : ∃ w6, w5.drewN nq = w6 ∧ Keep w w6 (fun k => k = g ∨ (Value.slice (some ⟨og, 0, none⟩) (n + 1) oc).ownBlock = some k) := ⟨_, rfl, K6.drewN _⟩
        have X6 : Blk w6 g 190 [.pointer none, (.slice (some ⟨og, 0, none⟩) (n + 1) oc)] := by rw [← hw6]; exact X5.drewN _
        have R6 : Blk w6 w.heap.size 178 [.pointer (some ⟨kb, koff, none⟩), .int .i64 (kd : Int), .int .i64 (km : Int)] := by rw [← hw6]; exact R5.drewN _
        have row6 : w6.ownsRow base 203 4 (.slice (some ⟨og, 0, none⟩) (n + 1) oc) (n + 1) (Stk.cells ((p, j + 1) :: st)) := by
          rw [← hw6]
          exact owns_block row5 (fun _ _ => rfl)
        have hM : ((p, j + 1) :: st).length = (n + 1) := by simp [hnn]
        rw [hw6]
        clear hw6
        obtain ⟨w7, hw7, hb7, X7, hs7⟩ := one_new w6.drew [.pointer (some ⟨kb, koff, none⟩), .int .i64 (kd : Int), .int .i64 (km : Int), .int .i64 0] 203
        have R7 := R6.drew.below hb7 R6.lt
        have Z7 := X6.drew.below hb7 X6.lt
        have t0 := R7.cell (j := 0) rfl
        have t1 := R7.cell (j := 1) rfl
        have t2 := R7.cell (j := 2) rfl
        have t3 := Z7.cell (j := 1) rfl
        have hz5 : w6.drew.heap.size = w6.heap.size := rfl
        have hs6 := K7.size
        have a0 := R6.cell (j := 0) rfl
        have a1 := R6.cell (j := 1) rfl
        have a2 := R6.cell (j := 2) rfl
        have a3 := X6.cell (j := 1) rfl
        clear r0 r1 r2 rf0 rf1 rf2 z1 zf1 E0 E3 C4 D4
        go_region_law (refine step_append_own (by rfl) (.tmp 86) (.tmp 89) 188 (by rfl) base 203 i122 _ 4 32 Tryz.underlying188 hi122 hz122 hs122 hb122 (by rfl) (by decide) (.slice (some ⟨og, 0, none⟩) (n + 1) oc) (n + 1) (Stk.cells ((p, j + 1) :: st)) (by rfl) (owns_below (w := w6.drew) row6 hb7) ⟨w6.heap.size, 0, none⟩ 1 1 [.pointer (some ⟨kb, koff, none⟩), .int .i64 (kd : Int), .int .i64 (km : Int), .int .i64 0] (by rfl) (by rfl) (fun i u hu => by rw [Addr.add_lit, Nat.zero_add]; exact X7.cell hu) (by simp [Value.oneCell']) (by unfold maxLen; omega) (by omega) (by omega) (by decide) ?_; intro v' w8 ho8 hg8 hn8; obtain ⟨g', c', rfl, hg'1, hg'2, hg'3, hg'4⟩ := owns_shape ho8 (by omega); have hg9 : g < w7.heap.size := Z7.lt; have hr9 : w.heap.size < w7.heap.size := R7.lt; have Z8 := Z7.carry (hg8.block g hg9 (fun e => by cases e; exact hgo rfl)); have R8 := R7.carry (hg8.block w.heap.size hr9 (fun e => by cases e; exact n1 rfl)); have l5 := Z8.cell (j := 1) rfl; have l6 := Z8.frozen 1; have u0 := R8.cell (j := 0) rfl; have u1 := R8.cell (j := 1) rfl; have u2 := R8.cell (j := 2) rfl; have uf0 := R8.frozen 0; have uf1 := R8.frozen 1; have uf2 := R8.frozen 2)
        all_goals
          go_wp2_with fail
          obtain ⟨F1, F2⟩ := ws_push (v := .slice (some ⟨og, 0, none⟩) (n + 1) oc) (st := ((p, j + 1) :: st)) (p := ⟨kb, koff, T, kd, km⟩) K7 (Nat.le_refl _) (.inl rfl) (fun k e _ => .inr e) Z8 R8 (Below.trans (Below.refl _ _).drew hb7) hg8 hM ho8 (.pointer (some ⟨kb, koff, none⟩)) (.int .i64 (kd : Int)) (.int .i64 (km : Int))
          have R9 := (st3 (R8.other (j := 1) (Value.slice (some ⟨g', 0, none⟩) ((n + 1) + 1) c') n3) (.pointer (some ⟨kb, koff, none⟩)) (.int .i64 (kd : Int)) (.int .i64 (km : Int))).1
          have s0 := R9.cell (j := 0) rfl
          have s1 := R9.cell (j := 1) rfl
          have s2 := R9.cell (j := 2) rfl
          exact bodyPost_ret (v := .tuple #[.agg #[.pointer (some ⟨kb, koff, none⟩), .int .i64 (kd : Int), .int .i64 (km : Int)], .bool true]) (by simp [results, Tryz.results103, go_sem, s0, s1, s2]) rfl ⟨rfl, by rw [hsf]; exact ⟨⟨_, F1, fun k e => by rcases hn8 with h | ⟨k', h, h2⟩; (rw [h] at e; exact .inl e); (rw [h] at e; cases e; exact .inr (by omega))⟩, F2⟩⟩

end Go.Proofs.YtekdalbhgdkckaaGreatDoor
