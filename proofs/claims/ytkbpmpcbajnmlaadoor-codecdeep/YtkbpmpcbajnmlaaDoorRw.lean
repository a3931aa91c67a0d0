/- Rows of the call's own: appended to, cut, written. Of no program; no condition. -/
import Derived.Test.YtkbpmpcbajnmlaaDoorTm
import Derived.ArgAppend
import Derived.Deep.RegionLaw
namespace Go.Proofs.YtkbpmpcbajnmlaaDoor
open Go.RowKit

/-- append onto a row of the call's own: into its block, or into a new one. -/
theorem run_append_two {P : Program} (w : World) (base : Nat) (t ty e : TypeId) (i : TypeInfo) (z : Value) (size bytes : Nat) (ht : P.underlying t = some (.slice e)) (hi : P.info? e = some i) (hz : i.zero = some z)
    (hsize : i.size = size) (hby : i.bytes = bytes) (hzs : z.cells.size = size) (hsz : 0 < size) (v : Value) (n : Nat) (xs : List Value) (hown : w.ownsRow base e size v n xs)
    (a : Addr) (m c : Nat) (news : List Value) (hl : news.length = m * size) (hnews : ∀ j u, news[j]? = some u → w.cell? (a.add j) = some u) (h1 : ∀ u ∈ news, u.oneCell' = true)
    (h63 : n + m ≤ maxLen) (hbytes : (n + m) * bytes ≤ 140737488355328) (hbase : base ≤ w.heap.size) (hm : 0 < m) :
    ∃ v' w', (Builtin.append_ #[t, t] ty #[v, .slice (some a) m c]).run P w = .ok v' w' ∧ w'.ownsRow base e size v' (n + m) (xs ++ news) ∧ w.grownBy w' v.ownBlock ∧
      (v'.ownBlock = v.ownBlock ∨ ∃ b, v'.ownBlock = some b ∧ w.heap.size ≤ b) := by
  have fresh : ∀ {v' : Value} {w' : World} {ys : List Value}, w'.ownsRow w.heap.size e size v' (n + m) ys → ∃ b, v'.ownBlock = some b ∧ w.heap.size ≤ b := fun {v' w' ys} h => by
    rcases h.2 with ⟨_, h0⟩ | ⟨g, cap, cur, rfl, hb, _⟩
    · omega
    · exact ⟨g, rfl, hb⟩
  obtain ⟨v', w', hrun, r1, r2, _⟩ := run_append_own (P := P) w base t ty e i z size bytes ht hi hz hsize hby hzs hsz v n xs hown a m c news hl hnews h1 h63 hbytes hbase
  refine ⟨v', w', hrun, r1, r2, ?_⟩
  rcases hown.2 with ⟨rfl, rfl⟩ | ⟨g, cap, cur, rfl, hb, hcur, hn, hmx, hcs, htk⟩
  · obtain ⟨v2, w2, hrun2, s1, _, _⟩ := run_append_own (P := P) w w.heap.size t ty e i z size bytes ht hi hz hsize hby hzs hsz _ 0 xs ⟨hown.1, .inl ⟨rfl, rfl⟩⟩ a m c news hl hnews h1 h63 hbytes (Nat.le_refl _)
    rw [hrun] at hrun2
    simp only [Result.ok.injEq] at hrun2
    obtain ⟨rfl, rfl⟩ := hrun2
    exact .inr (fresh s1)
  · by_cases hroom : n + m ≤ cap
    · have hbd : ∀ j, j < news.length → 0 + n * i.size + j < cur.size := fun j hj => by
        rw [hcs, ← hsize]
        have : (n + m) * i.size ≤ cap * i.size := Nat.mul_le_mul_right _ hroom
        rw [Nat.add_mul] at this
        rw [hl, ← hsize] at hj
        omega
      have := run_append_room_cells (P := P) w t ty e i ht hi g 0 n cap a m c news (by rw [hsize]; exact hl) hnews h1 hroom
        (fun j hj => by rw [cell_of_row w g _ cur e (0, 0) hcur, Array.getElem?_eq_getElem (hbd j hj)]; rfl) (fun j _ => by simp [World.frozen?, hcur])
      rw [hrun] at this
      simp only [Result.ok.injEq] at this
      obtain ⟨rfl, _⟩ := this
      exact .inl rfl
    · obtain ⟨v2, w2, hrun2, s1, _⟩ := run_append_arg_grows (P := P) w t ty e i z size bytes ht hi hz hsize hby hzs hsz ⟨g, 0, none⟩ n cap xs hown.1 (fun j u hj => by
          have hl' := (List.getElem?_eq_some_iff.1 hj).1
          rw [Addr.add_lit, Nat.zero_add, cell_of_row w g j cur e (0, 0) hcur]
          rw [← htk, List.getElem?_take_of_lt (by rw [← hown.1]; exact hl')] at hj
          simpa using hj) a m c news hl hnews (by omega) h63 hbytes
      rw [hrun] at hrun2
      simp only [Result.ok.injEq] at hrun2
      obtain ⟨rfl, rfl⟩ := hrun2
      exact .inr (fresh s1)

/-- append onto a row of the call's own, in a region that draws its order. -/
theorem step_append_own {P : Program} {ops : Array Oper} {o : Oper} {a : Act} {w : World} {K : Act → World → Prop} {Q : Exit → Act → World → Prop} {E : Prop}
    (hg : o.guard = none) (s x : Operand) (t : TypeId) (hop : o.op = Op.call { callee := Callee.builtin Builtin.append, args := #[s, x], argTypes := #[t, t] })
    (base : Nat) (e : TypeId) (i : TypeInfo) (z : Value) (size bytes : Nat) (h1 : P.underlying t = some (.slice e)) (h2 : P.info? e = some i) (h3 : i.zero = some z) (h4 : i.size = size) (h5 : i.bytes = bytes) (h6 : z.cells.size = size) (h7 : 0 < size)
    (v : Value) (n : Nat) (xs : List Value) (hs : a.eval s = v) (hown : w.ownsRow base e size v n xs)
    (ad : Addr) (m c : Nat) (news : List Value) (hx : a.eval x = .slice (some ad) m c) (hn : news.length = m * size) (hc : ∀ j u, news[j]? = some u → w.cell? (ad.add j) = some u) (h1c : ∀ u ∈ news, u.oneCell' = true)
    (b1 : n + m ≤ maxLen) (b2 : (n + m) * bytes ≤ 140737488355328) (hbase : base ≤ w.heap.size)
    (hm : 0 < m) (hK : ∀ v' w', w'.ownsRow base e size v' (n + m) (xs ++ news) → w.grownBy w' v.ownBlock → (v'.ownBlock = v.ownBlock ∨ ∃ b, v'.ownBlock = some b ∧ w.heap.size ≤ b) → K (a.put o.dst v') w') :
    if Region.wanted o (yielded ops a.tmps) = true then Oper.wp P o a w K Q else E := by
  have hw : Region.wanted o (yielded ops a.tmps) = true := by simp [Region.wanted, hg]
  rw [if_pos hw]
  obtain ⟨v', w', hrun, r1, r2, r3⟩ := run_append_two (P := P) w base t o.type e i z size bytes h1 h2 h3 h4 h5 h6 h7 v n xs hown ad m c news hn hc h1c b1 b2 hbase hm
  unfold Oper.wp
  simp [execOp, hop, resolve, invoke, builtin, hs, hx, hrun, Result.andThen]
  exact hK v' w' r1 r2 r3

theorem owns_cell {w : World} {base : Nat} {e : TypeId} {size n cap : Nat} {ao : Option Addr} {xs : List Value} (h : w.ownsRow base e size (.slice ao n cap) n xs) {i : Nat} {c : Value} (hi : xs[i]? = some c) : ∃ g, ao = some ⟨g, 0, none⟩ ∧ base ≤ g ∧ g < w.heap.size ∧ n ≤ cap ∧ cap ≤ maxLen ∧ w.cell? ⟨g, i, none⟩ = some c := by
  obtain ⟨h1, h2⟩ := h
  have hl := (List.getElem?_eq_some_iff.1 hi).1
  rcases h2 with ⟨_, h2⟩ | ⟨g, c', cur, he, hb, hcur, hn, hm, _, ht⟩
  · subst h2; simp at h1; subst h1; simp at hi
  · simp only [Value.slice.injEq] at he
    obtain ⟨rfl, _, rfl⟩ := he
    refine ⟨g, rfl, hb, (Array.getElem?_eq_some_iff.1 hcur).1, hn, hm, ?_⟩
    rw [cell_of_row w g i cur e (0, 0) hcur]
    rw [← ht, List.getElem?_take_of_lt (by omega)] at hi
    simpa using hi

/-- A call of a Go function, in a region that draws its order. -/
theorem step_call {P : Program} {ops : Array Oper} {o : Oper} {a : Act} {w : World} {K : Act → World → Prop} {Q : Exit → Act → World → Prop} {E : Prop}
    (hg : o.guard = none) (f : FuncId) (hrun : ∀ (args : Array Value) (w : World), (callFunc f args).run P w = .ok (.enter f args) w) (x y : Operand) (ts : Array TypeId) (hop : o.op = Op.call { callee := Callee.value (Operand.func f), args := #[x, y], argTypes := ts })
    (u v : Value) (hx : a.eval x = u) (hy : a.eval y = v) (h : Calls P f #[u, v] w fun e w' => ∃ r, e = .returned r ∧ K (a.put o.dst r) w') :
    if Region.wanted o (yielded ops a.tmps) = true then Oper.wp P o a w K Q else E := by
  have hw : Region.wanted o (yielded ops a.tmps) = true := by simp [Region.wanted, hg]
  rw [if_pos hw]
  subst hx hy
  unfold Oper.wp
  have he : (execOp a.eval o).run P w = .ok (.enter f #[a.eval x, a.eval y]) w := by
    have := hrun #[a.eval x, a.eval y] w
    simpa [go_sem, execOp, hop] using this
  rw [he]
  refine h.mono ?_
  rintro e w' ⟨r, rfl, hr⟩
  exact hr

theorem enter_of {P : Program} {f : FuncId} {fn : Func} {c : Code} (hf : P.funcs[f]? = some fn) (hname : (fn.name == "runtime.NumGoroutine") = false) (hb : fn.body = some c) (args : Array Value) (w : World) : (callFunc f args).run P w = .ok (.enter f args) w := by
  have h1 : fn.name ≠ "runtime.NumGoroutine" := by simpa using hname
  simp [callFunc, hf, h1, hb]

theorem owns_shape {w : World} {base : Nat} {e : TypeId} {size n : Nat} {v : Value} {xs : List Value} (h : w.ownsRow base e size v n xs) (hn : 0 < n) : ∃ g cap, v = .slice (some ⟨g, 0, none⟩) n cap ∧ base ≤ g ∧ g < w.heap.size ∧ n ≤ cap ∧ cap ≤ maxLen := by
  rcases h.2 with ⟨_, h0⟩ | ⟨g, cap, cur, rfl, hb, hcur, h1, h2, _⟩
  · omega
  · exact ⟨g, cap, rfl, hb, (Array.getElem?_eq_some_iff.1 hcur).1, h1, h2⟩

theorem owns_below {w w' : World} {base : Nat} {e : TypeId} {size n : Nat} {v : Value} {xs : List Value} (h : w.ownsRow base e size v n xs) (hb : Below w.heap.size w w') : w'.ownsRow base e size v n xs := by
  refine ⟨h.1, ?_⟩
  rcases h.2 with h0 | ⟨g, cap, cur, rfl, h1, hcur, r⟩
  · exact .inl h0
  · exact .inr ⟨g, cap, cur, rfl, h1, (hb.block g (Array.getElem?_eq_some_iff.1 hcur).1).trans hcur, r⟩

theorem owns_block {w w' : World} {base : Nat} {e : TypeId} {size n : Nat} {v : Value} {xs : List Value} (h : w.ownsRow base e size v n xs) (hb : ∀ g, v.ownBlock = some g → w'.heap[g]? = w.heap[g]?) : w'.ownsRow base e size v n xs := by
  refine ⟨h.1, ?_⟩
  rcases h.2 with h0 | ⟨g, cap, cur, rfl, h1, hcur, r⟩
  · exact .inl h0
  · exact .inr ⟨g, cap, cur, rfl, h1, (hb g rfl).trans hcur, r⟩

theorem owns_base {w : World} {base base' : Nat} {e : TypeId} {size n : Nat} {v : Value} {xs : List Value} (h : w.ownsRow base e size v n xs) (hb : ∀ g, v.ownBlock = some g → base' ≤ g) : w.ownsRow base' e size v n xs := by
  refine ⟨h.1, ?_⟩
  rcases h.2 with h0 | ⟨g, cap, cur, rfl, h1, hcur, r⟩
  · exact .inl h0
  · exact .inr ⟨g, cap, cur, rfl, hb g rfl, hcur, r⟩

theorem owns_own {w : World} {base : Nat} {e : TypeId} {size n : Nat} {v : Value} {xs : List Value} (h : w.ownsRow base e size v n xs) {g : Nat} (hg : v.ownBlock = some g) : base ≤ g ∧ g < w.heap.size := by
  rcases h.2 with ⟨rfl, h0⟩ | ⟨g', cap, cur, rfl, h1, hcur, r⟩
  · cases hg
  · simp [Value.ownBlock] at hg; subst hg; exact ⟨h1, (Array.getElem?_eq_some_iff.1 hcur).1⟩

theorem owns_frozen {w : World} {base : Nat} {e : TypeId} {size n cap : Nat} {g : Nat} {xs : List Value} (h : w.ownsRow base e size (.slice (some ⟨g, 0, none⟩) n cap) n xs) (j : Nat) : w.frozen? ⟨g, j, none⟩ = false := by
  rcases h.2 with ⟨h0, _⟩ | ⟨g', c', cur, he, _, hcur, _⟩
  · cases h0
  · simp only [Value.slice.injEq, Option.some.injEq, Addr.mk.injEq, true_and, and_true] at he
    obtain ⟨rfl, rfl⟩ := he
    simp [World.frozen?, hcur]

/-- A row cut. -/
theorem owns_cut {w : World} {base : Nat} {e : TypeId} {size n cap : Nat} {g : Nat} {xs ys : List Value} (h : w.ownsRow base e size (.slice (some ⟨g, 0, none⟩) n cap) n (xs ++ ys)) {m : Nat} (hm : xs.length = m * size) (hmn : m ≤ n) : w.ownsRow base e size (.slice (some ⟨g, 0, none⟩) m cap) m xs := by
  refine ⟨hm, ?_⟩
  rcases h.2 with ⟨h0, _⟩ | ⟨g', c', cur, he, h1, hcur, h2, h3, h4, h5⟩
  · cases h0
  · simp only [Value.slice.injEq, Option.some.injEq, Addr.mk.injEq, true_and, and_true] at he
    obtain ⟨rfl, rfl⟩ := he
    refine .inr ⟨g, cap, cur, rfl, h1, hcur, by omega, h3, h4, ?_⟩
    have : (cur.toList.take (n * size)).take (m * size) = xs := by rw [h5, ← hm, List.take_left]
    rwa [List.take_take, Nat.min_eq_left (Nat.mul_le_mul_right _ hmn)] at this

/-- A row written to. -/
theorem owns_set {w : World} {base : Nat} {e : TypeId} {size n cap : Nat} {g : Nat} {xs : List Value} (h : w.ownsRow base e size (.slice (some ⟨g, 0, none⟩) n cap) n xs) (i : Nat) (u : Value) : (w.setCell ⟨g, i, none⟩ u).ownsRow base e size (.slice (some ⟨g, 0, none⟩) n cap) n (xs.set i u) := by
  refine ⟨by rw [List.length_set]; exact h.1, ?_⟩
  rcases h.2 with ⟨h0, _⟩ | ⟨g', c', cur, he, h1, hcur, h2, h3, h4, h5⟩
  · cases h0
  · simp only [Value.slice.injEq, Option.some.injEq, Addr.mk.injEq, true_and, and_true] at he
    obtain ⟨rfl, rfl⟩ := he
    have hl := h.1
    refine .inr ⟨g, cap, cur.setIfInBounds i u, rfl, h1, ?_, h2, h3, by simpa using h4, ?_⟩
    · simp [World.setCell, Array.getElem?_modify, hcur]
    · rw [Array.toList_setIfInBounds, List.take_set, h5]

end Go.Proofs.YtkbpmpcbajnmlaaDoor

/- Small laws on worlds that grow. Of no program; no condition. -/
namespace Go.Proofs.YtkbpmpcbajnmlaaDoor
open Go.RowKit

theorem kcellG {W w1 : World} {g : Nat} (hk : Keep W w1 (· = g)) : ∀ b o, b < W.heap.size → b ≠ g → w1.cell? ⟨b, o, none⟩ = W.cell? ⟨b, o, none⟩ := fun b _ h hn =>
  World.cell?_of_block (w := W) (hk.block b h hn)

theorem bel_drewG {B : Nat} {a w : World} (h : Below B a w) : Below B a w.drew := h.trans ⟨rfl, rfl, rfl, Nat.le_refl _, fun _ _ => rfl⟩

theorem below_allocG (w : World) (o : Obj) : Below w.heap.size w (w.alloc o) := (Below.refl _ _).alloc (Nat.le_refl _) o

theorem one_newG (w : World) (l : List Value) (t : TypeId) : ∃ w1, w.alloc (.cells l.toArray t) = w1 ∧ Below w.heap.size w w1 ∧ Blk w1 w.heap.size t l ∧ w.heap.size < w1.heap.size :=
  ⟨_, rfl, (Below.refl _ _).alloc (Nat.le_refl _) _, Blk.new _ _ _, by simp⟩

/-- Two blocks made, one behind the other. -/
theorem two_newG (w : World) (l l' : List Value) (t t' : TypeId) : ∃ w1, (w.alloc (.cells l.toArray t)).alloc (.cells l'.toArray t') = w1 ∧ Below w.heap.size w w1 ∧ Blk w1 w.heap.size t l ∧ Blk w1 (w.heap.size + 1) t' l' ∧ w1.heap.size = w.heap.size + 2 := by
  refine ⟨_, rfl, ((Below.refl _ _).alloc (Nat.le_refl _) _).alloc (by simp) _, (Blk.new _ _ _).alloc _, ?_, by simp⟩
  have := Blk.new (w.alloc (.cells l.toArray t)) t' l'
  simpa using this

theorem three_newG (w : World) (l0 l1 l2 : List Value) (t0 t1 t2 : TypeId) : ∃ w1, ((w.alloc (.cells l0.toArray t0)).alloc (.cells l1.toArray t1)).alloc (.cells l2.toArray t2) = w1 ∧ Below w.heap.size w w1 ∧
    Blk w1 w.heap.size t0 l0 ∧ Blk w1 (w.heap.size + 1) t1 l1 ∧ Blk w1 (w.heap.size + 1 + 1) t2 l2 ∧ w1.heap.size = w.heap.size + 3 := by
  obtain ⟨a, ha, hb, p0, p1, hs⟩ := two_newG w l0 l1 t0 t1
  obtain ⟨a', ha', hb', p2, hs'⟩ := one_newG a l2 t2
  subst ha
  rw [hs] at p2
  refine ⟨a', ha', hb.trans (hb'.mono (by omega)), p0.below hb' p0.lt, p1.below hb' p1.lt, p2, ?_⟩
  rw [← ha']; simp

/-- Three cells written over. -/
theorem st3G {w : World} {g : Nat} {t : TypeId} {x y z : Value} (h : Blk w g t [x, y, z]) (a b c : Value) : Blk (((w.setCell ⟨g, 0, none⟩ a).setCell ⟨g, 1, none⟩ b).setCell ⟨g, 2, none⟩ c) g t [a, b, c] ∧ Keep w (((w.setCell ⟨g, 0, none⟩ a).setCell ⟨g, 1, none⟩ b).setCell ⟨g, 2, none⟩ c) (· = g) :=
  ⟨((h.set 0 a).set 1 b).set 2 c, (((Keep.refl w (· = g)).setCell (g := g) (fun _ => rfl) 0 a).setCell (g := g) (fun _ => rfl) 1 b).setCell (g := g) (fun _ => rfl) 2 c⟩

/-- Five cells written over. -/
theorem st5G {w : World} {g : Nat} {t : TypeId} {x0 x1 x2 x3 x4 : Value} (h : Blk w g t [x0, x1, x2, x3, x4]) (a0 a1 a2 a3 a4 : Value) :
    Blk (((((w.setCell ⟨g, 0, none⟩ a0).setCell ⟨g, 1, none⟩ a1).setCell ⟨g, 2, none⟩ a2).setCell ⟨g, 3, none⟩ a3).setCell ⟨g, 4, none⟩ a4) g t [a0, a1, a2, a3, a4] ∧
    Keep w (((((w.setCell ⟨g, 0, none⟩ a0).setCell ⟨g, 1, none⟩ a1).setCell ⟨g, 2, none⟩ a2).setCell ⟨g, 3, none⟩ a3).setCell ⟨g, 4, none⟩ a4) (· = g) :=
  ⟨((((h.set 0 a0).set 1 a1).set 2 a2).set 3 a3).set 4 a4, (((((Keep.refl w (· = g)).setCell (g := g) (fun _ => rfl) 0 a0).setCell (g := g) (fun _ => rfl) 1 a1).setCell (g := g) (fun _ => rfl) 2 a2).setCell (g := g) (fun _ => rfl) 3 a3).setCell (g := g) (fun _ => rfl) 4 a4⟩

theorem wrap64_smallG (z : Int) (h0 : 0 ≤ z) (h1 : z ≤ 9223372036854775807) : wrap64 z = z := by
  unfold wrap64; omega

theorem st2 {w : World} {g : Nat} {t : TypeId} {x y : Value} (h : Blk w g t [x, y]) (a b : Value) : Blk ((w.setCell ⟨g, 0, none⟩ a).setCell ⟨g, 1, none⟩ b) g t [a, b] ∧ Keep w ((w.setCell ⟨g, 0, none⟩ a).setCell ⟨g, 1, none⟩ b) (· = g) :=
  ⟨(h.set 0 a).set 1 b, ((Keep.refl w (· = g)).setCell (g := g) (fun _ => rfl) 0 a).setCell (g := g) (fun _ => rfl) 1 b⟩
end Go.Proofs.YtkbpmpcbajnmlaaDoor

/- Lists of terms, and of levels, that grow in a row of the call's own: what stays when one more is appended. Of no program. -/
namespace Go.Proofs.YtkbpmpcbajnmlaaDoor
open Go.RowKit

/-- The cells of a term's value. -/
def Tr.cells (T : Tr) : List Value := [.int .i64 T.k, .int .i64 T.n, .string T.s, .slice T.la T.ls.length T.lc, .slice T.a T.args.length T.c]
def trCells (ts : List Tr) : List Value := (ts.map Tr.cells).flatten
theorem trCells_cons (T : Tr) (r : List Tr) : trCells (T :: r) = T.cells ++ trCells r := rfl
theorem trCells_len (ts : List Tr) : (trCells ts).length = ts.length * 5 := by
  induction ts with
  | nil => rfl
  | cons x r ih => rw [trCells_cons, List.length_append, ih, List.length_cons]; simp [Tr.cells]; omega
theorem trCells_snoc (ts : List Tr) (T : Tr) : trCells (ts ++ [T]) = trCells ts ++ T.cells := by simp [trCells]
theorem trCells_get {ts : List Tr} {T : Tr} {j : Nat} {u : Value} (hj : T.cells[j]? = some u) : ∀ {i : Nat}, ts[i]? = some T → (trCells ts)[i * 5 + j]? = some u := by
  have hl : j < 5 := by have := (List.getElem?_eq_some_iff.1 hj).1; simpa [Tr.cells] using this
  induction ts with
  | nil => intro i h; simp at h
  | cons x r ih =>
    intro i h
    rw [trCells_cons]
    cases i with
    | zero => simp at h; subst h; rw [Nat.zero_mul, Nat.zero_add, List.getElem?_append_left (by simpa [Tr.cells] using hl)]; exact hj
    | succ i => rw [List.getElem?_append_right (by simp [Tr.cells]; omega), show (i + 1) * 5 + j - x.cells.length = i * 5 + j by simp [Tr.cells]; omega]; exact ih (by simpa using h)

/-- Terms in a row of the call's own; what is behind each lies in other blocks of the call's own. -/
structure TRow (w : World) (base : Nat) (e : TypeId) (v : Value) (ts : List Tr) : Prop where
  row : w.ownsRow base e 5 v ts.length (trCells ts)
  all : ∀ T ∈ ts, TIn w (fun b => base ≤ b ∧ b < w.heap.size ∧ v.ownBlock ≠ some b) T
theorem TRow.nil (w : World) (base : Nat) (e : TypeId) : TRow w base e (.slice none 0 0) [] := ⟨⟨rfl, .inl ⟨rfl, rfl⟩⟩, fun _ h => by cases h⟩
theorem TRow.carry {w w' : World} {base : Nat} {e : TypeId} {v : Value} {ts : List Tr} (h : TRow w base e v ts) (hs : w.heap.size ≤ w'.heap.size) (hb : ∀ b, base ≤ b → b < w.heap.size → w'.heap[b]? = w.heap[b]?) : TRow w' base e v ts :=
  ⟨owns_block h.row (fun g hg => hb g (owns_own h.row hg).1 (owns_own h.row hg).2), fun T hT => TIn.carry (fun b hb' => hb b hb'.1 hb'.2.1) (fun b hb' => ⟨hb'.1, by omega, hb'.2.2⟩) T (h.all T hT)⟩
/-- One more. -/
theorem TRow.push {w w6 w7 w8 : World} {base : Nat} {e : TypeId} {v v' : Value} {ts : List Tr} {T : Tr} (h : TRow w base e v ts) (hbw : base ≤ w.heap.size) (h6 : Below w.heap.size w w6) (hT : TIn w6 (fun b => w.heap.size ≤ b ∧ b < w6.heap.size) T) (h7 : Below w6.heap.size w6 w7)
    (ho : w8.ownsRow base e 5 v' (ts.length + 1) (trCells ts ++ T.cells)) (hg : w7.grownBy w8 v.ownBlock) (hnb : v'.ownBlock = v.ownBlock ∨ ∃ b, v'.ownBlock = some b ∧ w7.heap.size ≤ b) : TRow w8 base e v' (ts ++ [T]) := by
  have s6 := h6.size
  have s7 := h7.size
  have s8 := hg.size
  have own : ∀ b, v.ownBlock = some b → b < w.heap.size := fun b hb => (owns_own h.row hb).2
  have nb : ∀ b, b < w7.heap.size → v.ownBlock ≠ some b → v'.ownBlock ≠ some b := fun b h2 h3 e => by
    rcases hnb with h4 | ⟨g, h4, h5⟩
    · rw [h4] at e; exact h3 e
    · rw [h4] at e; simp at e; omega
  refine ⟨by rw [trCells_snoc, List.length_append]; exact ho, fun x hx => ?_⟩
  rcases List.mem_append.1 hx with hx | hx
  · refine TIn.carry (fun b hb => ?_) (fun b hb => ⟨hb.1, by omega, nb b (by omega) hb.2.2⟩) x (h.all x hx)
    exact (hg.block b (by omega) (fun e => hb.2.2 e.symm)).trans ((h7.block b (by omega)).trans (h6.block b hb.2.1))
  · simp at hx
    subst hx
    have hno : ∀ b, w.heap.size ≤ b → v.ownBlock ≠ some b := fun b hb e => by have := own b e; omega
    refine TIn.carry (fun b hb => ?_) (fun b hb => ⟨by omega, by omega, nb b (by omega) (hno b hb.1)⟩) x hT
    exact (hg.block b (by omega) (fun e => hno b hb.1 e.symm)).trans (h7.block b (by omega))
/-- As the args of a term. -/
theorem TRow.args {w : World} {base : Nat} {e : TypeId} {v : Value} {ts : List Tr} (h : TRow w base e v ts) :
    ∃ a c b, v = .slice a ts.length c ∧ ts.length ≤ c ∧ c ≤ maxLen ∧ (ts = [] ∨ (a = some ⟨b, 0, none⟩ ∧ (base ≤ b ∧ b < w.heap.size) ∧ TAll w (fun b => base ≤ b ∧ b < w.heap.size) b 0 ts)) := by
  by_cases h0 : ts = []
  · subst h0
    rcases h.row.2 with ⟨rfl, _⟩ | ⟨g, cap, cur, rfl, _, _, h1, h2, _⟩
    · exact ⟨none, 0, 0, rfl, by simp, by decide, .inl rfl⟩
    · exact ⟨_, cap, 0, rfl, h1, h2, .inl rfl⟩
  · obtain ⟨g, cap, rfl, h1, h2, h3, h4⟩ := owns_shape h.row (List.length_pos_iff.2 h0)
    refine ⟨_, cap, g, rfl, h3, h4, .inr ⟨rfl, ⟨h1, h2⟩, TAll.of_get fun i T hi => ?_⟩⟩
    have cc : ∀ {j u}, T.cells[j]? = some u → w.cell? ⟨g, i * 5 + j, none⟩ = some u := fun {j u} hj => by
      obtain ⟨g', e, _, _, _, _, h5⟩ := owns_cell h.row (trCells_get hj hi)
      obtain rfl : g = g' := by simpa using e
      exact h5
    rw [Nat.zero_add]
    exact ⟨⟨cc (j := 0) rfl, cc (j := 1) rfl, cc (j := 2) rfl, cc (j := 3) rfl, cc (j := 4) rfl⟩, (h.all T (List.mem_of_getElem? hi)).mono fun b hb => ⟨hb.1, hb.2.1⟩⟩

/-- Levels in a row of the call's own. -/
structure LRow (w : World) (base : Nat) (e : TypeId) (v : Value) (ls : List Lv) : Prop where
  row : ∃ xs, w.ownsRow base e 3 v ls.length xs ∧ ∀ i L, ls[i]? = some L → ∃ c0 c1 c2, xs[i * 3]? = some c0 ∧ xs[i * 3 + 1]? = some c1 ∧ xs[i * 3 + 2]? = some c2 ∧
      In w (fun b => base ≤ b ∧ b < w.heap.size ∧ v.ownBlock ≠ some b) L (.agg #[c0, c1, c2])
theorem LRow.nil (w : World) (base : Nat) (e : TypeId) : LRow w base e (.slice none 0 0) [] := ⟨[], ⟨rfl, .inl ⟨rfl, rfl⟩⟩, fun i L h => by simp at h⟩
theorem LRow.carry {w w' : World} {base : Nat} {e : TypeId} {v : Value} {ls : List Lv} (h : LRow w base e v ls) (hs : w.heap.size ≤ w'.heap.size) (hb : ∀ b, base ≤ b → b < w.heap.size → w'.heap[b]? = w.heap[b]?) : LRow w' base e v ls := by
  obtain ⟨xs, h1, h2⟩ := h.row
  refine ⟨xs, owns_block h1 (fun g hg => hb g (owns_own h1 hg).1 (owns_own h1 hg).2), fun i L hi => ?_⟩
  obtain ⟨c0, c1, c2, e0, e1, e2, e3⟩ := h2 i L hi
  exact ⟨c0, c1, c2, e0, e1, e2, In.carry (fun b hb' => hb b hb'.1 hb'.2.1) (fun b hb' => ⟨hb'.1, by omega, hb'.2.2⟩) _ _ e3⟩
theorem LRow.push {w w6 w7 w8 : World} {base : Nat} {e : TypeId} {v v' v0 v1 v2 : Value} {ls : List Lv} {L : Lv} {xs : List Value} (hr : w.ownsRow base e 3 v ls.length xs) (hall : ∀ i L, ls[i]? = some L → ∃ c0 c1 c2, xs[i * 3]? = some c0 ∧ xs[i * 3 + 1]? = some c1 ∧ xs[i * 3 + 2]? = some c2 ∧
      In w (fun b => base ≤ b ∧ b < w.heap.size ∧ v.ownBlock ≠ some b) L (.agg #[c0, c1, c2])) (hbw : base ≤ w.heap.size) (h6 : Below w.heap.size w w6) (hT : In w6 (fun b => w.heap.size ≤ b ∧ b < w6.heap.size) L (.agg #[v0, v1, v2])) (h7 : Below w6.heap.size w6 w7)
    (ho : w8.ownsRow base e 3 v' (ls.length + 1) (xs ++ [v0, v1, v2])) (hg : w7.grownBy w8 v.ownBlock) (hnb : v'.ownBlock = v.ownBlock ∨ ∃ b, v'.ownBlock = some b ∧ w7.heap.size ≤ b) : LRow w8 base e v' (ls ++ [L]) := by
  have s6 := h6.size
  have s7 := h7.size
  have s8 := hg.size
  have hl := hr.1
  have own : ∀ b, v.ownBlock = some b → b < w.heap.size := fun b hb => (owns_own hr hb).2
  have nb : ∀ b, b < w7.heap.size → v.ownBlock ≠ some b → v'.ownBlock ≠ some b := fun b h2 h3 e => by
    rcases hnb with h4 | ⟨g, h4, h5⟩
    · rw [h4] at e; exact h3 e
    · rw [h4] at e; simp at e; omega
  refine ⟨xs ++ [v0, v1, v2], by rw [List.length_append]; exact ho, fun i x hi => ?_⟩
  by_cases hlt : i < ls.length
  · rw [List.getElem?_append_left hlt] at hi
    obtain ⟨c0, c1, c2, e0, e1, e2, e3⟩ := hall i x hi
    refine ⟨c0, c1, c2, ?_, ?_, ?_, ?_⟩
    · rw [List.getElem?_append_left (by omega)]; exact e0
    · rw [List.getElem?_append_left (by omega)]; exact e1
    · rw [List.getElem?_append_left (by omega)]; exact e2
    · refine In.carry (fun b hb => ?_) (fun b hb => ⟨hb.1, by omega, nb b (by omega) hb.2.2⟩) _ _ e3
      exact (hg.block b (by omega) (fun e => hb.2.2 e.symm)).trans ((h7.block b (by omega)).trans (h6.block b hb.2.1))
  · rw [List.getElem?_append_right (by omega)] at hi
    have hz : i - ls.length = 0 := by have := (List.getElem?_eq_some_iff.1 hi).1; simp at this; omega
    rw [hz] at hi
    simp at hi
    subst hi
    obtain rfl : i = ls.length := by omega
    have hno : ∀ b, w.heap.size ≤ b → v.ownBlock ≠ some b := fun b hb e => by have := own b e; omega
    refine ⟨v0, v1, v2, ?_, ?_, ?_, ?_⟩
    · rw [List.getElem?_append_right (by omega), show ls.length * 3 - xs.length = 0 by omega]; rfl
    · rw [List.getElem?_append_right (by omega), show ls.length * 3 + 1 - xs.length = 1 by omega]; rfl
    · rw [List.getElem?_append_right (by omega), show ls.length * 3 + 2 - xs.length = 2 by omega]; rfl
    · refine In.carry (fun b hb => ?_) (fun b hb => ⟨by omega, by omega, nb b (by omega) (hno b hb.1)⟩) _ _ hT
      exact (hg.block b (by omega) (fun e => hno b hb.1 e.symm)).trans (h7.block b (by omega))
/-- As a list of levels. -/
theorem LRow.node {w : World} {base : Nat} {e : TypeId} {v : Value} {ls : List Lv} (h : LRow w base e v ls) :
    ∃ a c, v = .slice a ls.length c ∧ Node w (fun b => base ≤ b ∧ b < w.heap.size) 0 0 ls a c := by
  obtain ⟨xs, h1, h2⟩ := h.row
  by_cases h0 : ls = []
  · subst h0
    rcases h1.2 with ⟨rfl, _⟩ | ⟨g, cap, cur, rfl, _, _, h1, h2, _⟩
    · exact ⟨none, 0, rfl, by decide, by decide, by decide, by decide, by simp, by decide, .inl rfl⟩
    · exact ⟨_, cap, rfl, by decide, by decide, by decide, by decide, h1, h2, .inl rfl⟩
  · obtain ⟨g, cap, rfl, g1, g2, g3, g4⟩ := owns_shape h1 (List.length_pos_iff.2 h0)
    refine ⟨_, cap, rfl, by decide, by decide, by decide, by decide, g3, g4, .inr ⟨g, 0, rfl, ⟨g1, g2⟩, InAll.of_get fun i L hi => ?_⟩⟩
    obtain ⟨c0, c1, c2, e0, e1, e2, e3⟩ := h2 i L hi
    have cc : ∀ {j u}, xs[j]? = some u → w.cell? ⟨g, j, none⟩ = some u := fun {j u} hj => by
      obtain ⟨g', e, _, _, _, _, h5⟩ := owns_cell h1 hj
      obtain rfl : g = g' := by simpa using e
      exact h5
    rw [Nat.zero_add]
    exact ⟨c0, c1, c2, cc e0, cc e1, cc e2, e3.mono fun b hb => ⟨hb.1, hb.2.1⟩⟩
end Go.Proofs.YtkbpmpcbajnmlaaDoor

/- Lists of structs, of whatever kind, that grow by append in a row of the call's own, where each struct is read by a call that may write elsewhere. Of no program; no condition. -/
namespace Go.Proofs.YtkbpmpcbajnmlaaDoor
open Go.RowKit

/-- append onto a row of the call's own, for the walk. -/
theorem wpList_append_two {P : Program} {ops : Array Oper} {rest : List Oper} {o : Oper} {a : Act} {w : World} {Q : Exit → Act → World → Prop}
    (hg : o.guard = none) (s x : Operand) (t : TypeId) (hop : o.op = Op.call { callee := Callee.builtin Builtin.append, args := #[s, x], argTypes := #[t, t] })
    (base : Nat) (e : TypeId) (i : TypeInfo) (z : Value) (size bytes : Nat) (h1 : P.underlying t = some (.slice e)) (h2 : P.info? e = some i) (h3 : i.zero = some z) (h4 : i.size = size) (h5 : i.bytes = bytes) (h6 : z.cells.size = size) (h7 : 0 < size)
    (v : Value) (n : Nat) (xs : List Value) (hs : a.eval s = v) (hown : w.ownsRow base e size v n xs)
    (ad : Addr) (m c : Nat) (news : List Value) (hx : a.eval x = .slice (some ad) m c) (hn : news.length = m * size) (hc : ∀ j u, news[j]? = some u → w.cell? (ad.add j) = some u) (h1c : ∀ u ∈ news, u.oneCell' = true)
    (b1 : n + m ≤ maxLen) (b2 : (n + m) * bytes ≤ 140737488355328) (hbase : base ≤ w.heap.size)
    (hm : 0 < m) (hK : ∀ v' w', w'.ownsRow base e size v' (n + m) (xs ++ news) → w.grownBy w' v.ownBlock → (v'.ownBlock = v.ownBlock ∨ ∃ b, v'.ownBlock = some b ∧ w.heap.size ≤ b) → wpList P ops Q rest (a.put o.dst v') w') :
    wpList P ops Q (o :: rest) a w :=
  wpList_plain hg fun K hK' => by
    obtain ⟨v', w', hrun, r1, r2, r3⟩ := run_append_two (P := P) w base t o.type e i z size bytes h1 h2 h3 h4 h5 h6 h7 v n xs hown ad m c news hn hc h1c b1 b2 hbase hm
    unfold Oper.wp
    simp [execOp, hop, resolve, invoke, builtin, hs, hx, hrun, Result.andThen]
    exact hK' _ _ (hK v' w' r1 r2 r3)

theorem flat_get {cs : List (List Value)} {sz : Nat} (hl : ∀ c ∈ cs, c.length = sz) : ∀ {i j : Nat} {c : List Value} {u : Value}, cs[i]? = some c → c[j]? = some u → cs.flatten[i * sz + j]? = some u := by
  induction cs with
  | nil => intro i j c u h; simp at h
  | cons x r ih =>
    intro i j c u h hj
    have hx := hl x (by simp)
    cases i with
    | zero =>
      simp at h; subst h
      rw [Nat.zero_mul, Nat.zero_add, List.flatten_cons, List.getElem?_append_left (List.getElem?_eq_some_iff.1 hj).1]; exact hj
    | succ i =>
      rw [List.flatten_cons, List.getElem?_append_right (by rw [hx, Nat.succ_mul]; omega), show (i + 1) * sz + j - x.length = i * sz + j by rw [hx, Nat.succ_mul]; omega]
      exact ih (fun c hc => hl c (by simp [hc])) (by simpa using h) hj

/-- A row of structs of sz cells; what is behind each lies in other blocks of the call's own. -/
def GR {β : Type} (sz : Nat) (Is : World → (Nat → Prop) → β → List Value → Prop) (w : World) (base : Nat) (e : TypeId) (v : Value) (xs : List β) (cs : List (List Value)) : Prop :=
  cs.length = xs.length ∧ (∀ c ∈ cs, c.length = sz) ∧ w.ownsRow base e sz v xs.length cs.flatten ∧ ∀ (i : Nat) (x : β) (c : List Value), xs[i]? = some x → cs[i]? = some c → Is w (fun b => base ≤ b ∧ b < w.heap.size ∧ v.ownBlock ≠ some b) x c

/-- It stays where its blocks stay. -/
def Car {β : Type} (Is : World → (Nat → Prop) → β → List Value → Prop) : Prop := ∀ (w w' : World) (S T : Nat → Prop) (x : β) (c : List Value), (∀ b, S b → w'.heap[b]? = w.heap[b]?) → (∀ b, S b → T b) → Is w S x c → Is w' T x c

theorem GR.nil {β : Type} (sz : Nat) (Is : World → (Nat → Prop) → β → List Value → Prop) (w : World) (base : Nat) (e : TypeId) : GR sz Is w base e (.slice none 0 0) [] [] :=
  ⟨rfl, (fun _ h => by cases h), ⟨by simp, .inl ⟨rfl, rfl⟩⟩, fun i x c h => by simp at h⟩

theorem GR.carry {β : Type} {sz : Nat} {Is : World → (Nat → Prop) → β → List Value → Prop} (hc : Car Is) {w w' : World} {base : Nat} {e : TypeId} {v : Value} {xs : List β} {cs : List (List Value)} (h : GR sz Is w base e v xs cs) (hs : w.heap.size ≤ w'.heap.size) (hb : ∀ b, base ≤ b → b < w.heap.size → w'.heap[b]? = w.heap[b]?) : GR sz Is w' base e v xs cs :=
  ⟨h.1, h.2.1, owns_block h.2.2.1 (fun g hg => hb g (owns_own h.2.2.1 hg).1 (owns_own h.2.2.1 hg).2), fun i x c hi hi' => hc _ _ _ _ _ _ (fun b hb' => hb b hb'.1 hb'.2.1) (fun b hb' => ⟨hb'.1, by omega, hb'.2.2⟩) (h.2.2.2 i x c hi hi')⟩

theorem GR.slice {β : Type} {sz : Nat} {Is : World → (Nat → Prop) → β → List Value → Prop} {w : World} {base : Nat} {e : TypeId} {v : Value} {xs : List β} {cs : List (List Value)} (h : GR sz Is w base e v xs cs) : ∃ a c, v = .slice a xs.length c ∧ xs.length ≤ c ∧ c ≤ maxLen := by
  by_cases h0 : xs = []
  · subst h0
    rcases h.2.2.1.2 with ⟨rfl, _⟩ | ⟨g, cap, cur, rfl, _, _, h1, h2, _⟩
    · exact ⟨none, 0, rfl, by simp, by decide⟩
    · exact ⟨_, cap, rfl, h1, h2⟩
  · obtain ⟨g, cap, rfl, g1, g2, g3, g4⟩ := owns_shape h.2.2.1 (List.length_pos_iff.2 h0)
    exact ⟨_, cap, rfl, g3, g4⟩

/-- One more. -/
theorem GR.push {β : Type} {sz : Nat} {Is : World → (Nat → Prop) → β → List Value → Prop} (hc : Car Is) {w w6 w7 w8 : World} {base : Nat} {e : TypeId} {v v' : Value} {xs : List β} {cs : List (List Value)} {x : β} {c : List Value} (h : GR sz Is w base e v xs cs) (hbw : base ≤ w.heap.size)
    (s6 : w.heap.size ≤ w6.heap.size) (h6 : ∀ b, base ≤ b → b < w.heap.size → w6.heap[b]? = w.heap[b]?) (hT : Is w6 (fun b => w.heap.size ≤ b ∧ b < w6.heap.size) x c) (hcl : c.length = sz) (h7 : Below w6.heap.size w6 w7)
    (ho : w8.ownsRow base e sz v' (xs.length + 1) (cs.flatten ++ c)) (hg : w7.grownBy w8 v.ownBlock) (hnb : v'.ownBlock = v.ownBlock ∨ ∃ b, v'.ownBlock = some b ∧ w7.heap.size ≤ b) : GR sz Is w8 base e v' (xs ++ [x]) (cs ++ [c]) := by
  have s7 := h7.size
  have s8 := hg.size
  have own : ∀ b, v.ownBlock = some b → b < w.heap.size := fun b hb => (owns_own h.2.2.1 hb).2
  have nb : ∀ b, b < w7.heap.size → v.ownBlock ≠ some b → v'.ownBlock ≠ some b := fun b h2 h3 e => by
    rcases hnb with h4 | ⟨g, h4, h5⟩
    · rw [h4] at e; exact h3 e
    · rw [h4] at e; simp at e; omega
  refine ⟨by simp [h.1], fun y hy => ?_, by rw [List.flatten_append, List.length_append]; simpa using ho, fun i y d hi hd => ?_⟩
  · rcases List.mem_append.1 hy with hy | hy
    · exact h.2.1 y hy
    · simp at hy; subst hy; exact hcl
  · by_cases hlt : i < xs.length
    · rw [List.getElem?_append_left hlt] at hi
      rw [List.getElem?_append_left (by rw [h.1]; exact hlt)] at hd
      refine hc _ _ _ _ _ _ (fun b hb => ?_) (fun b hb => ⟨hb.1, by omega, nb b (by omega) hb.2.2⟩) (h.2.2.2 i y d hi hd)
      exact (hg.block b (by omega) (fun e => hb.2.2 e.symm)).trans ((h7.block b (by omega)).trans (h6 b hb.1 hb.2.1))
    · rw [List.getElem?_append_right (by omega)] at hi
      rw [List.getElem?_append_right (by rw [h.1]; omega), h.1] at hd
      have hz : i - xs.length = 0 := by have := (List.getElem?_eq_some_iff.1 hi).1; simp at this; omega
      rw [hz] at hi hd
      simp at hi hd
      subst hi hd
      have hno : ∀ b, w.heap.size ≤ b → v.ownBlock ≠ some b := fun b hb e => by have := own b e; omega
      refine hc _ _ _ _ _ _ (fun b hb => ?_) (fun b hb => ⟨by omega, by omega, nb b (by omega) (hno b hb.1)⟩) hT
      exact (hg.block b (by omega) (fun e => hno b hb.1 e.symm)).trans (h7.block b (by omega))

/-- A cell of the row. -/
theorem GR.cell {β : Type} {sz : Nat} {Is : World → (Nat → Prop) → β → List Value → Prop} {w : World} {base : Nat} {e : TypeId} {ao : Option Addr} {n cap : Nat} {xs : List β} {cs : List (List Value)} (h : GR sz Is w base e (.slice ao n cap) xs cs) (hn : n = xs.length) {i j : Nat} {c : List Value} {u : Value} (hi : cs[i]? = some c) (hj : c[j]? = some u) :
    ∃ g, ao = some ⟨g, 0, none⟩ ∧ base ≤ g ∧ g < w.heap.size ∧ w.cell? ⟨g, i * sz + j, none⟩ = some u := by
  subst hn
  obtain ⟨g, e, h1, h2, _, _, h5⟩ := owns_cell h.2.2.1 (flat_get h.2.1 hi hj)
  exact ⟨g, e, h1, h2, h5⟩

/-- A level as a struct. -/
def LIs (w : World) (S : Nat → Prop) (L : Lv) (c : List Value) : Prop := ∃ k n a l cap, c = [.int .i64 k, .int .i64 n, .slice a l cap] ∧ In w S L (.agg #[.int .i64 k, .int .i64 n, .slice a l cap])
theorem LIs.car : Car LIs := fun _ _ _ _ _ _ hb hT ⟨k, n, a, l, cap, e, h⟩ => ⟨k, n, a, l, cap, e, In.carry hb hT _ _ h⟩

theorem GR.node {w : World} {base : Nat} {e : TypeId} {v : Value} {ls : List Lv} {cs : List (List Value)} (h : GR 3 LIs w base e v ls cs) : ∃ a c, v = .slice a ls.length c ∧ Node w (fun b => base ≤ b ∧ b < w.heap.size) 0 0 ls a c := by
  by_cases h0 : ls = []
  · obtain ⟨a, c, e1, e2, e3⟩ := h.slice
    subst h0
    exact ⟨a, c, e1, by decide, by decide, by decide, by decide, e2, e3, .inl rfl⟩
  · obtain ⟨a, c, rfl, e2, e3⟩ := h.slice
    obtain ⟨g, cap, e4, g1, g2, g3, g4⟩ := owns_shape h.2.2.1 (List.length_pos_iff.2 h0)
    simp only [Value.slice.injEq, true_and] at e4
    obtain ⟨rfl, rfl⟩ := e4
    refine ⟨_, c, rfl, by decide, by decide, by decide, by decide, e2, e3, .inr ⟨g, 0, rfl, ⟨g1, g2⟩, InAll.of_get fun i L hi => ?_⟩⟩
    have hlt := (List.getElem?_eq_some_iff.1 hi).1
    obtain ⟨d, hd⟩ : ∃ d, cs[i]? = some d := ⟨_, List.getElem?_eq_getElem (by rw [h.1]; exact hlt)⟩
    obtain ⟨k, n, a, l, cap, rfl, hin⟩ := h.2.2.2 i L d hi hd
    have cc : ∀ {j u}, [Value.int .i64 k, Value.int .i64 n, Value.slice a l cap][j]? = some u → w.cell? ⟨g, i * 3 + j, none⟩ = some u := fun {j u} hj => by
      obtain ⟨g', e, _, _, h5⟩ := h.cell rfl hd hj
      obtain rfl : g = g' := by simpa using e
      exact h5
    rw [Nat.zero_add]
    exact ⟨_, _, _, cc (j := 0) rfl, cc (j := 1) rfl, cc (j := 2) rfl, hin.mono fun b hb => ⟨hb.1, hb.2.1⟩⟩
end Go.Proofs.YtkbpmpcbajnmlaaDoor
