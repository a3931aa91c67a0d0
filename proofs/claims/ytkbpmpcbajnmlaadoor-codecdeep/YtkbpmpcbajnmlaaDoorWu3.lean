/- The walk of the program's writer of terms. No condition but that the term is formed as its Kinds ask, and that what is written stays short. -/
import Derived.Test.YtkbpmpcbajnmlaaDoorSc5
import Derived.Test.YtkbpmpcbajnmlaaDoorGr
import Derived.Test.YtkbpmpcbajnmlaaDoorBk
namespace Go.Proofs.YtkbpmpcbajnmlaaDoor
open Go.RowKit Go.Shelf

attribute [local go_sem] Oper.semAt_some

/-- A part that is still to be written: where it lies. -/
structure Pd where
  b : Nat
  off : Nat
  t : Tr
def Pd.ptr (x : Pd) : Value := .pointer (some ⟨x.b, x.off, none⟩)
def restT (stk : List Pd) : Bs := eTs (stk.reverse.map fun x => x.t.pl)
theorem restT_snoc (stk : List Pd) (x : Pd) : restT (stk ++ [x]) = eT x.t.pl ++ restT stk := by simp [restT, eTs]
theorem restT_len (stk : List Pd) : stk.length ≤ (restT stk).length := by
  unfold restT
  generalize hl : stk.reverse = l
  have : stk.length = l.length := by rw [← hl]; simp
  rw [this]
  clear this hl
  induction l with
  | nil => simp
  | cons x r ih =>
    rw [List.map_cons, eTs, List.length_append, List.length_cons, Tr.pl_eq, eT_mk, List.length_append]
    have := eHead_pos x.t.k x.t.n x.t.s x.t.ls
    omega

structure PdOk (w : World) (B b0 : Nat) (x : Pd) : Prop where
  cells : TCells w x.b x.off x.t
  inn : TIn w (· < B) x.t
  wf : WfT x.t.pl
  at_ : x.b < B ∨ x.b = b0

/-- The Args of a part, from the last on. -/
def argsPd (T : Tr) (l : List Nat) : List Pd := l.filterMap fun i => T.args[i]?.map fun U => ⟨T.b, T.off + i * 5, U⟩

theorem argsPd_append (T : Tr) (a b : List Nat) : argsPd T (a ++ b) = argsPd T a ++ argsPd T b := by simp [argsPd]
theorem argsPd_one {T : Tr} {i : Nat} {U : Tr} (h : T.args[i]? = some U) : argsPd T [i] = [⟨T.b, T.off + i * 5, U⟩] := by simp [argsPd, h]

theorem range_get (l : List Tr) (k : Nat) : (List.range k).filterMap (fun i => l[i]?) = l.take k := by
  induction k with
  | zero => simp
  | succ k ih => rw [List.range_succ, List.filterMap_append, ih, List.take_add_one]; cases h : l[k]? <;> simp [h]

theorem restT_append (a b : List Pd) : restT (a ++ b) = restT b ++ restT a := by simp [restT, eTs_append]

theorem argsPd_rest (T : Tr) (stk : List Pd) : restT (stk ++ argsPd T (List.range T.args.length).reverse) = eTs (T.args.map Tr.pl) ++ restT stk := by
  rw [restT_append]
  congr 1
  unfold restT argsPd
  rw [List.filterMap_reverse, List.reverse_reverse, List.map_filterMap]
  have e : (fun i => Option.map (fun x : Pd => x.t.pl) (T.args[i]?.map fun U => (⟨T.b, T.off + i * 5, U⟩ : Pd))) = fun i => (T.args[i]?).map Tr.pl := by funext i; cases T.args[i]? <;> rfl
  rw [e]
  have := range_get T.args T.args.length
  rw [List.take_length] at this
  conv => rhs; rw [← this]
  rw [List.map_filterMap]

/-- The marks of the ranges that are behind. -/
def Mks (w : World) (N : Nat) (ds : List Deferred) : Prop :=
  ∃ ks : List Nat, ds = ks.map (fun k => { target := .collected k, args := #[] }) ∧ ks.Nodup ∧ ∀ k ∈ ks, N ≤ k ∧ w.heap[k]? = some (.deferred (some []))

theorem Mks.nil (w : World) (N : Nat) : Mks w N [] := ⟨[], rfl, List.nodup_nil, fun _ h => by cases h⟩
theorem Mks.carry {w w' : World} {N : Nat} {ds : List Deferred} (h : Mks w N ds) (hk : ∀ k, N ≤ k → w.heap[k]? = some (.deferred (some [])) → w'.heap[k]? = w.heap[k]?) : Mks w' N ds := by
  obtain ⟨ks, h1, h2, h3⟩ := h
  exact ⟨ks, h1, h2, fun k hm => ⟨(h3 k hm).1, (hk k (h3 k hm).1 (h3 k hm).2).trans (h3 k hm).2⟩⟩
theorem Mks.cons {w : World} {N k : Nat} {ds : List Deferred} (h : Mks w N ds) (hk : N ≤ k) (hb : w.heap[k]? = some (.deferred (some []))) (hn : ∀ ks : List Nat, ds = ks.map (fun k => { target := .collected k, args := #[] }) → k ∉ ks) : Mks w N ({ target := .collected k, args := #[] } :: ds) := by
  obtain ⟨ks, h1, h2, h3⟩ := h
  exact ⟨k :: ks, by rw [h1]; rfl, List.nodup_cons.2 ⟨hn ks h1, h2⟩, fun i hi => by
    rcases List.mem_cons.1 hi with rfl | hi
    · exact ⟨hk, hb⟩
    · exact h3 i hi⟩

theorem leaves_marks {F : Fence} {n : Nat} {P : Program} {fn : Func} {tmps : Array Value} {R : Ending → World → Prop} {N : Nat} (ds : List Deferred) : ∀ (w : World), Mks w N ds →
    (∀ w', Keep w w' (fun k => N ≤ k ∧ w.heap[k]? = some (.deferred (some []))) → LeavesIn F n P fn tmps R [] .returning w') → LeavesInM F n P fn tmps R ds .returning w := by
  induction ds with
  | nil => intro w _ h; exact h w (Keep.refl _ _)
  | cons d ds ih =>
    intro w hm h
    obtain ⟨ks, h1, h2, h3⟩ := hm
    cases ks with
    | nil => cases h1
    | cons k ks =>
      simp only [List.map_cons, List.cons.injEq] at h1
      obtain ⟨rfl, rfl⟩ := h1
      have hb := h3 k (List.mem_cons_self ..)
      refine ⟨by simp, .inl ⟨k, _, rfl, run_takeDeferred hb.2, ?_⟩⟩
      have hnd := List.nodup_cons.1 h2
      have ho : ∀ i, i ≠ k → (w.putObj k (.deferred none)).heap[i]? = w.heap[i]? := fun i hi => World.putObj_heap_other (fun e => hi e)
      refine ih _ ⟨ks, rfl, hnd.2, fun i hi => ⟨(h3 i (List.mem_cons_of_mem _ hi)).1, (ho i (fun e => hnd.1 (e ▸ hi))).trans (h3 i (List.mem_cons_of_mem _ hi)).2⟩⟩ (fun w' hk => h w' ?_)
      refine ((Keep.put1 w k (.deferred none)).mono (fun i e => ?_)).trans hk (fun i _ hi => ?_)
      · subst e; exact hb
      · by_cases e : i = k
        · subst e; exact hb
        · rw [ho i e] at hi; exact hi
end Go.Proofs.YtkbpmpcbajnmlaaDoor

/- The state of the program's writer of terms, and its steps in the world alone. No condition but that the term is formed as its Kinds ask, and that what is written stays short. -/
namespace Go.Proofs.YtkbpmpcbajnmlaaDoor
open Go.RowKit Go.Shelf

/-- What was written, in a row that has grown. -/
theorem ws_grown {w w1 : World} {B g n cap cap' : Nat} {ao ao' : Option Addr} {q q' : Option Nat} {bs : Bs} (hW : WS w B g 75 [] q bs) (h1 : Blk w g 75 [.slice ao n cap, .bool false]) (hb : Below w.heap.size w w1) (hQ : QO w1 B q' ao' n cap' bs) (hq : q' = q ∨ ∃ k, q' = some k ∧ w.heap.size ≤ k) :
    WS (w1.setCell ⟨g, 0, none⟩ (.slice ao' n cap')) B g 75 [] q' bs ∧ Keep w (w1.setCell ⟨g, 0, none⟩ (.slice ao' n cap')) (fun k => k = g ∨ q = some k) := by
  have hlt := h1.lt
  have hne : ∀ k, q' = some k → k ≠ g := fun k hk => by
    rcases hq with e | ⟨m, e1, e2⟩
    · rw [e] at hk; exact (hW.own hk).2.2
    · rw [hk] at e1; simp at e1; omega
  refine ⟨⟨⟨ao', n, cap', (h1.below hb hlt).set 0 _, hQ.imp id fun ⟨k, e1, e2, e3⟩ => ⟨k, e1, e2, e3.carry (Below.heap_setCell _ _ _ _ (by simpa using hne k e1))⟩⟩, hW.low, hW.short, .inl rfl⟩, ?_⟩
  exact (Keep.of_below (S := fun k => k = g ∨ q = some k) hb (Nat.le_refl _)).setCell (fun _ => .inl rfl) 0 _

theorem WS.notdef {w : World} {B g : Nat} {wt : TypeId} {wl : List Value} {q : Option Nat} {bs : Bs} (h : WS w B g wt wl q bs) {k : Nat} (hk : q = some k) {l : Option (List Deferred)} (hd : w.heap[k]? = some (.deferred l)) : False := by
  obtain ⟨ao, n, cap, h1, h2⟩ := h.st
  rcases h2 with ⟨h2, _⟩ | ⟨k', h2, _, h3⟩
  · rw [hk] at h2; cases h2
  · rw [hk] at h2; simp at h2; subst h2
    obtain ⟨cur, hc, _⟩ := h3.row
    rw [hd] at hc
    simp at hc
theorem Blk.notdef {w : World} {b : Nat} {t : TypeId} {l : List Value} (h : Blk w b t l) {d : Option (List Deferred)} (hd : w.heap[b]? = some (.deferred d)) : False := by
  unfold Blk at h
  rw [hd] at h
  simp at h
theorem owns_notdef {w : World} {base : Nat} {e : TypeId} {size n : Nat} {v : Value} {xs : List Value} (h : w.ownsRow base e size v n xs) {k : Nat} (hk : v.ownBlock = some k) {d : Option (List Deferred)} (hd : w.heap[k]? = some (.deferred d)) : False := by
  rcases h.2 with ⟨rfl, _⟩ | ⟨g', cap, cur, rfl, _, hcur, _⟩
  · cases hk
  · simp [Value.ownBlock] at hk
    subst hk
    rw [hd] at hcur
    simp at hcur

def ptrs (stk : List Pd) : List Value := stk.map Pd.ptr
theorem ptrs_len (stk : List Pd) : (ptrs stk).length = stk.length := by simp [ptrs]
theorem ptrs_append (a b : List Pd) : ptrs (a ++ b) = ptrs a ++ ptrs b := by simp [ptrs]

theorem PdOk.keep {w w' : World} {B : Nat} {S : Nat → Prop} {x : Pd} (h : PdOk w B 0 x) (h0 : 0 < B) (hk : Keep w w' S) (hS : ∀ k, S k → B ≤ k) (hB : B ≤ w.heap.size) : PdOk w' B 0 x := by
  have hb : x.b < B := by have := h.at_; omega
  exact ⟨h.cells.carry (hk.block _ (by omega) (fun s => by have := hS _ s; omega)), h.inn.keep hk hB hS, h.wf, h.at_⟩
theorem PdOk.lt {w : World} {B : Nat} {x : Pd} (h : PdOk w B 0 x) (h0 : 0 < B) : x.b < B := by have := h.at_; omega

/-- In the midst of writing a term: what is open stands in the block go. -/
structure WtS (w W : World) (B g go : Nat) (q0 : Option Nat) (bs : Bs) (stk : List Pd) (v : Value) : Prop where
  ws : ∃ q' bs', WS W B g 75 [] q' bs' ∧ bs' ++ restT stk = bs ∧ (q' = q0 ∨ ∃ k, q' = some k ∧ w.heap.size ≤ k)
  blk : Blk W go 109 [v]
  row : W.ownsRow w.heap.size 77 1 v stk.length (ptrs stk)
  ok : ∀ x ∈ stk, PdOk W B 0 x
  kp : Keep w W (fun k => k = g ∨ q0 = some k)
  low : w.heap.size ≤ go
  bas : B ≤ w.heap.size
  two : 2 ≤ B
  tabs : Tabs w
  ent : ∃ b0, WS w B g 75 [] q0 b0

theorem WtS.hS {w W : World} {B g go : Nat} {q0 : Option Nat} {bs : Bs} {stk : List Pd} {v : Value} (h : WtS w W B g go q0 bs stk v) : ∀ k, (k = g ∨ q0 = some k) → B ≤ k := by
  obtain ⟨b0, hE⟩ := h.ent
  rintro k (e | e)
  · have := hE.low; omega
  · exact (hE.own e).2.1
theorem WtS.tabsW {w W : World} {B g go : Nat} {q0 : Option Nat} {bs : Bs} {stk : List Pd} {v : Value} (h : WtS w W B g go q0 bs stk v) : Tabs W :=
  h.tabs.keep h.kp (fun k s => by have := h.hS k s; have := h.two; omega)

/-- Everything stays but the writer's own, or what is new. -/
theorem WtS.move {w W W' : World} {B g go : Nat} {q0 : Option Nat} {bs : Bs} {stk stk' : List Pd} {v v' : Value} (h : WtS w W B g go q0 bs stk v) (S : Nat → Prop) (hk : Keep W W' S) (hS : ∀ k, S k → k < w.heap.size → k = g ∨ q0 = some k)
    (hw : ∃ q' bs', WS W' B g 75 [] q' bs' ∧ bs' ++ restT stk' = bs ∧ (q' = q0 ∨ ∃ k, q' = some k ∧ w.heap.size ≤ k)) (hb : Blk W' go 109 [v']) (hr : W'.ownsRow w.heap.size 77 1 v' stk'.length (ptrs stk')) (ho : ∀ x ∈ stk', PdOk W B 0 x) : WtS w W' B g go q0 bs stk' v' := by
  have hz := h.kp.size
  have hB := h.bas
  have h2 := h.two
  have hSS := h.hS
  have kx : Keep w W' (fun k => k = g ∨ q0 = some k) := h.kp.trans hk (fun k hl s => hS k s hl)
  refine ⟨hw, hb, hr, fun x hx => ?_, kx, h.low, h.bas, h.two, h.tabs, h.ent⟩
  have hp := ho x hx
  have hl := hp.lt (by omega)
  refine hp.keep (S := fun k => S k) (by omega) hk (fun k s => ?_) (by omega)
  by_cases hkw : k < w.heap.size
  · exact hSS k (hS k s hkw)
  · omega

/-- The row's block is neither the writer's, nor its row, nor open's own. -/
theorem WtS.own {w W : World} {B g go : Nat} {q0 : Option Nat} {bs : Bs} {stk : List Pd} {v : Value} (h : WtS w W B g go q0 bs stk v) {k : Nat} (hk : v.ownBlock = some k) : w.heap.size ≤ k ∧ k < W.heap.size ∧ k ≠ g ∧ k ≠ go := by
  obtain ⟨h1, h2⟩ := owns_own h.row hk
  obtain ⟨q', bs', hW, -, -⟩ := h.ws
  obtain ⟨_, _, _, hblk⟩ := hW.blk
  exact ⟨h1, h2, fun e => owns_ty h.row hblk (by decide) (by rw [← e]; exact hk), fun e => owns_ty h.row h.blk (by decide) (by rw [← e]; exact hk)⟩
end Go.Proofs.YtkbpmpcbajnmlaaDoor

/- In the midst of a range over the Args of a part that is written: what stays, and what one more that waits does. Of the world alone; no condition. -/
namespace Go.Proofs.YtkbpmpcbajnmlaaDoor
open Go.RowKit Go.Shelf

theorem WS.qrow {w : World} {B g : Nat} {wt : TypeId} {wl : List Value} {q : Option Nat} {bs : Bs} (h : WS w B g wt wl q bs) {k : Nat} (hk : q = some k) : ∃ l, Blk w k 5 l := by
  obtain ⟨ao, n, cap, h1, h2⟩ := h.st
  rcases h2 with ⟨h2, _⟩ | ⟨k', h2, _, h3⟩
  · rw [hk] at h2; cases h2
  · rw [hk] at h2; simp at h2; subst h2
    obtain ⟨cur, hc, _⟩ := h3.row
    exact ⟨cur.toList, by unfold Blk; simpa using hc⟩

structure RgS (w : World) (B g go : Nat) (q0 : Option Nat) (q2 : Option Nat) (bs2 : Bs) (nx g0 : Nat) (p : Value) (N : Nat) (ks : List Nat) (stk : List Pd) (v : Value) (W : World) : Prop where
  ws : WS W B g 75 [] q2 bs2
  blk : Blk W go 109 [v]
  row : W.ownsRow w.heap.size 77 1 v stk.length (ptrs stk)
  ok : ∀ x ∈ stk, PdOk W B 0 x
  kp : Keep w W (fun k => k = g ∨ q0 = some k)
  nb : ∀ k, v.ownBlock = some k → k ≠ N ∧ k ≠ N + 1 ∧ k ≠ nx ∧ k ≠ g0
  mks : ∀ k ∈ ks, W.heap[k]? = some (.deferred (some []))
  xb : Blk W nx 77 [p]

/-- What does not hang on the world. -/
structure RgC (w : World) (B g go : Nat) (q0 q2 : Option Nat) (nx g0 N : Nat) (ks : List Nat) : Prop where
  two : 2 ≤ B
  bas : B ≤ w.heap.size
  glt : g < w.heap.size
  gB : B ≤ g
  qB : ∀ k, q0 = some k → B ≤ k
  qN : ∀ k, q2 = some k → k < N
  golo : w.heap.size ≤ go
  gohi : go < N
  nxlo : w.heap.size ≤ nx
  nxhi : nx < N
  g0lo : w.heap.size ≤ g0
  g0hi : g0 < N
  g0go : g0 ≠ go
  mN : ∀ k ∈ ks, k < N ∧ w.heap.size ≤ k

theorem RgS.keep {w : World} {B g go : Nat} {q0 q2 : Option Nat} {bs2 : Bs} {nx g0 : Nat} {p : Value} {N : Nat} {ks : List Nat} {stk : List Pd} {v : Value} {W W' : World} (h : RgS w B g go q0 q2 bs2 nx g0 p N ks stk v W) (c : RgC w B g go q0 q2 nx g0 N ks) (hk : Keep W W' (fun k => k = N ∨ k = N + 1)) : RgS w B g go q0 q2 bs2 nx g0 p N ks stk v W' := by
  have hN : w.heap.size < N := Nat.lt_of_le_of_lt c.golo c.gohi
  have hB := c.bas
  refine ⟨h.ws.keep hk (by have := c.glt; omega) (fun k e => by have := c.qN k e; omega), h.blk.keep hk (by have := c.gohi; omega), owns_block h.row (fun k e => ?_), fun x hx => ?_, h.kp.trans hk (fun k hk' e => by omega), h.nb, fun k hm => ?_, h.xb.keep hk (by have := c.nxhi; omega)⟩
  · have h1 := (owns_own h.row e).2
    have h2 := h.nb k e
    exact hk.block k h1 (by omega)
  · exact (h.ok x hx).keep (by have := c.two; omega) hk (fun k e => by omega) (by have := h.kp.size; omega)
  · have hd := h.mks k hm
    exact (hk.block k (Array.getElem?_eq_some_iff.1 hd).1 (by have := c.mN k hm; omega)).trans hd

/-- One more waits. -/
theorem RgS.push {w : World} {B g go : Nat} {q0 q2 : Option Nat} {bs2 : Bs} {nx g0 : Nat} {p : Value} {N : Nat} {ks : List Nat} {stk : List Pd} {v v' : Value} {W W3 W8 : World} {y : Pd} (h : RgS w B g go q0 q2 bs2 nx g0 p N ks stk v W) (c : RgC w B g go q0 q2 nx g0 N ks) (hN : N + 2 ≤ W.heap.size)
    (hb : Below W.heap.size W W3) (ho : W8.ownsRow w.heap.size 77 1 v' (stk.length + 1) (ptrs stk ++ [y.ptr])) (hg : W3.grownBy W8 v.ownBlock) (hn : v'.ownBlock = v.ownBlock ∨ ∃ b, v'.ownBlock = some b ∧ W3.heap.size ≤ b) (hy : PdOk W B 0 y) :
    RgS w B g go q0 q2 bs2 nx g0 p N ks (stk ++ [y]) v' (W8.setCell ⟨go, 0, none⟩ v') ∧ Keep W (W8.setCell ⟨go, 0, none⟩ v') (fun k => k = go ∨ v.ownBlock = some k) := by
  have hNw : w.heap.size < N := Nat.lt_of_le_of_lt c.golo c.gohi
  have hB := c.bas
  have z3 := hb.size
  have hgo := h.blk.lt
  have hvgo : v.ownBlock ≠ some go := owns_ty h.row h.blk (by decide)
  have K1 : Keep W W3 (fun k => k = go ∨ v.ownBlock = some k) := Keep.of_below hb (Nat.le_refl _)
  have K2 : Keep W3 W8 (fun k => k = go ∨ v.ownBlock = some k) := ⟨hg.os, hg.tape, hg.output, hg.size, fun k hk hn => hg.block k hk (fun e => hn (.inr e.symm))⟩
  have K8 : Keep W W8 (fun k => k = go ∨ v.ownBlock = some k) := K1.trans K2 (fun _ _ s => s)
  have K9 : Keep W (W8.setCell ⟨go, 0, none⟩ v') (fun k => k = go ∨ v.ownBlock = some k) := K8.setCell (fun _ => .inl rfl) 0 _
  have hvlo : ∀ k, v.ownBlock = some k → w.heap.size ≤ k ∧ k < W.heap.size := fun k e => owns_own h.row e
  have b8 : Blk W8 go 109 [v] := (h.blk.below hb hgo).carry (hg.block go (by omega) (fun e => hvgo e.symm))
  have hb9 : Blk (W8.setCell ⟨go, 0, none⟩ v') go 109 [v'] := b8.set 0 v'
  have hv'go : v'.ownBlock ≠ some go := owns_ty ho b8 (by decide)
  have hS : ∀ k, (k = go ∨ v.ownBlock = some k) → w.heap.size ≤ k := fun k e => by
    rcases e with e | e
    · have := c.golo; omega
    · exact (hvlo k e).1
  refine ⟨⟨h.ws.keep K9 (fun e => by have := hS _ e; have := c.glt; omega) ?_, hb9, ?_, fun x hx => ?_, h.kp.trans K9 (fun k hk e => by have := hS _ e; omega), fun k e => ?_, fun k hm => ?_, h.xb.keep K9 ?_⟩, K9⟩
  · intro k hq e
    obtain ⟨l, hl⟩ := h.ws.qrow hq
    rcases e with e | e
    · exact hl.ne h.blk (by decide) e
    · exact owns_ty h.row hl (by decide) e
  · have e1 : ptrs (stk ++ [y]) = ptrs stk ++ [y.ptr] := by rw [ptrs_append]; rfl
    rw [e1, List.length_append, List.length_singleton]
    exact owns_block ho (fun k e => Below.heap_setCell _ _ _ _ (fun h => hv'go (by rw [e]; exact congrArg some h)))
  · have hx' : PdOk W B 0 x := by
      rcases List.mem_append.1 hx with h1 | h1
      · exact h.ok x h1
      · simp at h1; subst h1; exact hy
    exact hx'.keep (by have := c.two; omega) K9 (fun k e => by have := hS _ e; omega) (by have := h.kp.size; omega)
  · rcases hn with e1 | ⟨b, e1, e2⟩
    · exact h.nb k (e1 ▸ e)
    · rw [e] at e1; simp at e1; have := c.nxhi; have := c.g0hi; omega
  · have hd := h.mks k hm
    refine (K9.block k (Array.getElem?_eq_some_iff.1 hd).1 (fun e => ?_)).trans hd
    rcases e with e | e
    · subst e; exact h.blk.notdef hd
    · exact owns_notdef h.row e hd
  · rintro (e | e)
    · exact h.xb.ne h.blk (by decide) e
    · exact (h.nb nx e).2.2.1 rfl
end Go.Proofs.YtkbpmpcbajnmlaaDoor
