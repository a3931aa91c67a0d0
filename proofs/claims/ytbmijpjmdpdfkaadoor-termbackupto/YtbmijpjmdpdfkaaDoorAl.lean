/- The walks of term's isAlike of parts that are alike, and of a likeness' opens and holds of no Levels. No condition but that the parts lie in memory. -/
import Derived.Test.YtbmijpjmdpdfkaaDoorForm
namespace Go.Proofs.YtbmijpjmdpdfkaaDoor
open Go.RowKit

set_option maxRecDepth 100000 in
set_option maxHeartbeats 400000 in
theorem alike_self (b off d m b' off' d' m' : Nat) (T : Tr) (w : World) (hc : TCells w b off T) (hc' : TCells w b' off' T) :
    Calls Tryd.prog 58 #[.agg #[.pointer (some ⟨b, off, none⟩), .int .i64 (d : Int), .int .i64 (m : Int)], .agg #[.pointer (some ⟨b', off', none⟩), .int .i64 (d' : Int), .int .i64 (m' : Int)]] w fun e w' => e = .returned (.bool true) ∧ Below w.heap.size w w' := by
  have hlb := hc.lt
  have hlb' := hc'.lt
  have c0 := hc.c0
  have c1 := hc.c1
  have c2 := hc.c2
  have c4 := hc.c4
  have e0 := hc'.c0
  have e1 := hc'.c1
  have e2 := hc'.c2
  have e4 := hc'.c4
  generalize T.k = k at *
  generalize T.n = n at *
  generalize T.s = s at *
  generalize T.args.length = len at *
  generalize T.c = cap at *
  generalize T.a = ta at *
  clear hc hc'
  obtain ⟨w1, hw1, hb1, P1, P2, hs1⟩ := two_new w [.pointer (some ⟨b, off, none⟩), .int .i64 (d : Int), .int .i64 (m : Int)] [.pointer (some ⟨b', off', none⟩), .int .i64 (d' : Int), .int .i64 (m' : Int)] 50 50
  have p0 := over_cell (P1.cell (j := 0) rfl)
  have q0 := over_cell (P2.cell (j := 0) rfl)
  have C0 := over_cell (((bcell hb1).1 b off hlb).trans c0)
  have C1 := over_cell (((bcell hb1).1 b (off + 1) hlb).trans c1)
  have C2 := over_cell (((bcell hb1).1 b (off + 2) hlb).trans c2)
  have C4 := over_cell (((bcell hb1).1 b (off + 4) hlb).trans c4)
  have E0 := over_cell (((bcell hb1).1 b' off' hlb').trans e0)
  have E1 := over_cell (((bcell hb1).1 b' (off' + 1) hlb').trans e1)
  have E2 := over_cell (((bcell hb1).1 b' (off' + 2) hlb').trans e2)
  have E4 := over_cell (((bcell hb1).1 b' (off' + 4) hlb').trans e4)
  clear c0 c1 c2 c4 e0 e1 e2 e4
  go_enter Tryd.func58, Tryd.ntmps58
  go_wp2_with fail
  refine wp_region_over w1 (Below.refl _ _) (by kernel_rfl) (by kernel_rfl) ?_
  repeat (go_big_quiet_step (fail))
  refine wpQuiet_nil ?_
  rintro _ ⟨u, rfl⟩
  go_wp2_with fail
  refine wp_region_over w1 (over_below w1 u) (by kernel_rfl) (by kernel_rfl) ?_
  repeat (go_big_quiet_step (fail))
  refine wpQuiet_nil ?_
  rintro _ ⟨u2, rfl⟩
  go_wp2_with fail
  go_ret
  exact ⟨ret_bool (by simp), hb1.trans ((over_below w1 u2).mono (by omega))⟩

set_option maxRecDepth 100000 in
set_option maxHeartbeats 400000 in
theorem opens_nil (g : Option Addr) (la la' : Option Addr) (lc lc' : Nat) (w : World) :
    Calls Tryd.prog 84 #[.pointer g, .agg #[.slice la 0 lc, .slice la' 0 lc']] w fun e w' => e = .returned (.bool true) ∧ Below w.heap.size w w' := by
  obtain ⟨w1, hw1, hb1, P1, hs1⟩ := one_new w [.slice la 0 lc, .slice la' 0 lc'] 126
  have p0 := P1.cell (j := 0) rfl
  have p1 := P1.cell (j := 1) rfl
  go_enter Tryd.func84, Tryd.ntmps84
  go_wp2_with fail
  go_ret
  exact ⟨rfl, hb1⟩

/-- append onto a row of the call's own. -/
theorem wpList_append_two {P : Program} {ops : Array Oper} {rest : List Oper} {o : Oper} {a : Act} {w : World} {Q : Exit → Act → World → Prop}
    (hg : o.guard = none) (s x : Operand) (t : TypeId) (hop : o.op = Op.call { callee := Callee.builtin Builtin.append, args := #[s, x], argTypes := #[t, t] })
    (base : Nat) (e : TypeId) (i : TypeInfo) (z : Value) (size bytes : Nat) (h1 : P.underlying t = some (.slice e)) (h2 : P.info? e = some i) (h3 : i.zero = some z) (h4 : i.size = size) (h5 : i.bytes = bytes) (h6 : z.cells.size = size) (h7 : 0 < size)
    (v : Value) (n : Nat) (xs : List Value) (hs : a.eval s = v) (hown : w.ownsRow base e size v n xs)
    (ad : Addr) (m c : Nat) (news : List Value) (hx : a.eval x = .slice (some ad) m c) (hn : news.length = m * size) (hc : ∀ j u, news[j]? = some u → w.cell? (ad.add j) = some u) (h1c : ∀ u ∈ news, u.oneCell' = true)
    (b1 : n + m ≤ maxLen) (b2 : (n + m) * bytes ≤ 140737488355328) (hbase : base ≤ w.heap.size)
    (hm : 0 < m) (hK : ∀ v' w', w'.ownsRow base e size v' (n + m) (xs ++ news) → w.grownBy w' v.ownBlock → (v'.ownBlock = v.ownBlock ∨ ∃ b, v'.ownBlock = some b ∧ w.heap.size ≤ b) → wpList P ops Q rest (a.put o.dst v') w') :
    wpList P ops Q (o :: rest) a w :=
  wpList_plain hg fun K hK' => by
    obtain ⟨v', w', hrun, r1, r2, r3⟩ := run_append_two (P := P) w base t o.type e i z size bytes h1 h2 h3 h4 h5 h6 h7 v n xs hown ad m c news hn hc h1c b1 b2 hbase hm
    unfold Oper.wp
    simp [execOp, hop, resolve, invoke, builtin, hs, hx, hrun, Result.andThen]
    exact hK' _ _ (hK v' w' r1 r2 r3)

theorem Keep.grown {w w' : World} {row : Option Nat} (hg : w.grownBy w' row) : Keep w w' (fun k => row = some k) := ⟨hg.os, hg.tape, hg.output, hg.size, fun k hk hn => hg.block k hk (fun e => hn e.symm)⟩

theorem info126 : ∃ i, Tryd.prog.info? 126 = some i ∧ i.zero = some (.agg #[.slice none 0 0, .slice none 0 0]) ∧ i.size = 2 ∧ i.bytes = 48 := by
  have h : (Tryd.prog.info? 126).map (fun i => (i.zero, i.size, i.bytes)) = some (some (.agg #[.slice none 0 0, .slice none 0 0]), 2, 48) := by kernel_rfl
  obtain ⟨i, hi, he⟩ := Option.map_eq_some_iff.1 h
  simp only [Prod.mk.injEq] at he
  exact ⟨i, hi, he⟩

/-- A likeness between two of its questions: nothing is open. -/
structure Lk (w : World) (B g : Nat) (m mp v : Value) : Prop where
  blk : Blk w g 90 [v, m, mp]
  row : w.ownsRow B 126 2 v 0 []

def lkN (g : Nat) (w : World) : Nat := match w.cell? ⟨g, 0, none⟩ with
  | some (.slice _ n _) => n
  | _ => 0

set_option maxRecDepth 100000 in
set_option maxHeartbeats 400000 in
theorem holds_nil (B g : Nat) (m mp v : Value) (la la' : Option Addr) (lc lc' : Nat) (w : World) (h : Lk w B g m mp v) (hB : B ≤ w.heap.size) :
    Calls Tryd.prog 59 #[.pointer (some ⟨g, 0, none⟩), .slice la 0 lc, .slice la' 0 lc'] w fun e w' => e = .returned (.bool true) ∧ (∃ v', Lk w' B g m mp v' ∧ ∀ k, v'.ownBlock = some k → v.ownBlock = some k ∨ w.heap.size ≤ k) ∧ Keep w w' (fun k => k = g ∨ v.ownBlock = some k) := by
  obtain ⟨i126, hi126, hz126, hs126, hy126⟩ := info126
  have hlg := h.blk.lt
  have x0 := h.blk.cell (j := 0) rfl
  have hrow := h.row
  obtain ⟨ao, cap, rfl, hmx⟩ : ∃ ao cap, v = .slice ao 0 cap ∧ cap ≤ maxLen := by
    rcases hrow.2 with ⟨rfl, _⟩ | ⟨g1, c1, cur, rfl, _, _, _, h3, _⟩
    · exact ⟨none, 0, rfl, by unfold maxLen; omega⟩
    · exact ⟨_, _, rfl, h3⟩
  obtain ⟨w1, hw1, hb1, P1, hs1⟩ := one_new w [.slice la 0 lc, .slice la' 0 lc'] 126
  have X1 := h.blk.below hb1 hlg
  have hown := owns_below hrow hb1
  have hne := owns_ne hown X1 (by decide)
  have n1 : g ≠ w.heap.size := by omega
  unfold maxLen at hmx
  go_enter Tryd.func59, Tryd.ntmps59
  go_wp2_with (refine wpList_append_two (by rfl) (.tmp 14) (.tmp 18) 87 (by rfl) B 126 i126 _ 2 48 Tryd.underlying87 hi126 hz126 hs126 hy126 (by rfl) (by decide) (.slice ao 0 cap) 0 [] (by rfl) hown ⟨w.heap.size, 0, none⟩ 1 1 [.slice la 0 lc, .slice la' 0 lc'] (by rfl) (by rfl) (fun i u hu => by rw [Addr.add_lit, Nat.zero_add]; exact P1.cell hu) (by simp [Value.oneCell']) (by unfold maxLen; omega) (by omega) (by omega) (by decide) ?_; intro v3 u3 o3 g3 nb3; obtain ⟨gb, capb, rfl, hgb1, hgb2, hgb3, hgb4⟩ := owns_shape o3 (by omega); have X3 := X1.carry (g3.block g X1.lt (fun e => hne e.symm)); have l5 := X3.cell (j := 0) rfl; have l6 := X3.frozen 0)
  have hgv : ∀ k, (Value.slice (some ⟨gb, 0, none⟩) 1 capb).ownBlock = some k → (Value.slice ao 0 cap).ownBlock = some k ∨ w.heap.size ≤ k := fun k e => by
    rcases nb3 with h1 | ⟨b, h1, h2⟩
    · exact .inl (h1.symm.trans e)
    · have : some b = some k := h1.symm.trans e
      simp only [Option.some.injEq] at this
      exact .inr (by omega)
  have hK3 : Keep w u3 (fun k => k = g ∨ (Value.slice ao 0 cap).ownBlock = some k) := (Keep.of_below hb1 (Nat.le_refl _)).trans (Keep.grown g3) (fun k _ h => .inr h)
  simp only [Nat.zero_add, List.nil_append] at o3
  have hgg : gb ≠ g := fun e => owns_ne o3 X3 (by decide) (by simp [Value.ownBlock, e])
  obtain ⟨w4, hw4, X4, o4, K4⟩ : ∃ w4, u3.setCell ⟨g, 0, none⟩ (.slice (some ⟨gb, 0, none⟩) 1 capb) = w4 ∧ Blk w4 g 90 [.slice (some ⟨gb, 0, none⟩) 1 capb, m, mp] ∧ w4.ownsRow B 126 2 (.slice (some ⟨gb, 0, none⟩) 1 capb) 1 [.slice la 0 lc, .slice la' 0 lc'] ∧ Keep w w4 (fun k => k = g ∨ (Value.slice ao 0 cap).ownBlock = some k) :=
    ⟨_, rfl, X3.set 0 _, owns_block o3 (fun k e => Below.heap_setCell _ _ _ _ (by simp [Value.ownBlock] at e; subst e; exact hgg)), hK3.setCell (fun _ => .inl rfl) _ _⟩
  rw [hw4]
  clear hw4 hw1 o3 X3 l5 l6 x0 hK3 g3 nb3
  go_loopw [] (fun wr => ∃ n xs, n ≤ 1 ∧ (n = 1 → xs = [.slice la 0 lc, .slice la' 0 lc']) ∧ (n = 0 → xs = []) ∧ Blk wr g 90 [.slice (some ⟨gb, 0, none⟩) n capb, m, mp] ∧ wr.ownsRow B 126 2 (.slice (some ⟨gb, 0, none⟩) n capb) n xs ∧ Keep w wr (fun k => k = g ∨ (Value.slice ao 0 cap).ownBlock = some k)) (fun wr => lkN g wr)
  case atStart => exact ⟨1, _, Nat.le_refl _, fun _ => rfl, fun h => by omega, X4, o4, K4⟩
  case round =>
    obtain ⟨n, xs, hn, hx1, hx0, X, o, K⟩ := hrel
    have l0 := X.cell (j := 0) rfl
    have l1 := X.frozen 0
    rcases (by omega : n = 0 ∨ n = 1) with rfl | rfl
    · have hx0 := hx0 rfl
      subst hx0
      clear hx1
      go_wp2_with fail
      go_ret
      exact ⟨rfl, ⟨_, ⟨X, o⟩, hgv⟩, K⟩
    · have hx1 := hx1 rfl
      subst hx1
      clear hx0
      have lg := X.lt
      have d0 : wr.cell? ⟨gb, 0, none⟩ = some (.slice la 0 lc) := by
        obtain ⟨g2, h1, _, _, _, _, h2⟩ := owns_cell o (i := 0) rfl
        cases h1; exact h2
      have d1 : wr.cell? ⟨gb, 1, none⟩ = some (.slice la' 0 lc') := by
        obtain ⟨g2, h1, _, _, _, _, h2⟩ := owns_cell o (i := 1) rfl
        cases h1; exact h2
      have ng : g ≠ wr.heap.size := by omega
      have ng' : wr.heap.size ≠ g := by omega
      have hgb5 : gb < wr.heap.size := (owns_own o rfl).2
      obtain ⟨w5, hw5, X5, o5, K5, Y5⟩ : ∃ w5, (wr.setCell ⟨g, 0, none⟩ (.slice (some ⟨gb, 0, none⟩) 0 capb)).alloc (Obj.cells #[.slice la 0 lc, .slice la' 0 lc'] 126) = w5 ∧ Blk w5 g 90 [.slice (some ⟨gb, 0, none⟩) 0 capb, m, mp] ∧ w5.ownsRow B 126 2 (.slice (some ⟨gb, 0, none⟩) 0 capb) 0 [] ∧ Keep w w5 (fun k => k = g ∨ (Value.slice ao 0 cap).ownBlock = some k) ∧ Blk w5 wr.heap.size 126 [.slice la 0 lc, .slice la' 0 lc'] := by
        refine ⟨_, rfl, (X.set 0 _).alloc _, ?_, (K.setCell (fun _ => .inl rfl) _ _).alloc _, by have := Blk.new (wr.setCell ⟨g, 0, none⟩ (.slice (some ⟨gb, 0, none⟩) 0 capb)) 126 [.slice la 0 lc, .slice la' 0 lc']; rwa [show (wr.setCell ⟨g, 0, none⟩ (.slice (some ⟨gb, 0, none⟩) 0 capb)).heap.size = wr.heap.size from by simp [World.setCell]] at this⟩
        have o6 := owns_cut (xs := []) o (m := 0) rfl (by omega)
        refine owns_block o6 (fun k e => ?_)
        simp [Value.ownBlock] at e
        subst e
        exact (Below.heap_alloc _ _ _ (by simp [World.setCell]; omega)).trans (Below.heap_setCell _ _ _ _ hgg)
      have y0 := Y5.cell (j := 0) rfl
      have y1 := Y5.cell (j := 1) rfl
      go_wp2_with fail
      refine (opens_nil _ la la' lc lc' w5).mono ?_
      rintro e w6 ⟨rfl, hb6⟩
      go_wp2_with fail
      go_roundw
      case rel =>
        exact ⟨0, [], by omega, fun h => by omega, fun _ => rfl, X5.below hb6 X5.lt, owns_below o5 hb6, K5.low hb6 K5.size⟩
      case measure =>
        have e6 := (X5.below hb6 X5.lt).cell (j := 0) rfl
        unfold lkN
        rw [e6, l0]
        exact Nat.zero_lt_one
end Go.Proofs.YtbmijpjmdpdfkaaDoor
