/- Whole arrays and structs in blocks that are known. Of no program; no condition. -/
import Derived.Test.YtogfmpjgmabomaaDoorMem
import Derived.Laws.CopyOwn
namespace Go.Proofs.YtogfmpjgmabomaaDoor
open Go.RowKit

theorem Blk.range {w : World} {g : Nat} {t : TypeId} {l : List Value} (h : Blk w g t l) (o : Nat) (cs : List Value) (hc : ∀ j v, cs[j]? = some v → l[o + j]? = some v) : w.rangeAt g o cs :=
  fun j v hv => h.cell (hc j v hv)
theorem Blk.whole {w : World} {g : Nat} {t : TypeId} {l : List Value} (h : Blk w g t l) : w.rangeAt g 0 l := h.range 0 l fun j v hv => by rw [Nat.zero_add]; exact hv
theorem Blk.there {w : World} {g : Nat} {t : TypeId} {l : List Value} (h : Blk w g t l) (o n : Nat) (hn : o + n ≤ l.length) : w.there g o n := fun j hj => by
  refine ⟨?_, h.frozen _⟩
  rw [h.cell (List.getElem?_eq_getElem (show o + j < l.length by omega))]; rfl

theorem splice_cons {α : Type} (l : List α) (o : Nat) (v : α) (r : List α) (ho : o + (v :: r).length ≤ l.length) : splice (l.set o v) (o + 1) r = splice l o (v :: r) := by
  simp only [List.length_cons] at ho
  unfold splice
  apply List.ext_getElem?
  intro j
  simp only [List.length_cons]
  rw [List.getElem?_append, List.getElem?_append, List.getElem?_append, List.getElem?_append]
  simp only [List.length_take, List.length_set, List.length_cons]
  have e1 : min (o + 1) l.length = o + 1 := by omega
  have e2 : min o l.length = o := by omega
  rw [e1, e2]
  by_cases h1 : j < o
  · rw [if_pos (by omega), if_pos h1, List.getElem?_take_of_lt (by omega), List.getElem?_take_of_lt h1, List.getElem?_set_ne (by omega)]
  · by_cases h2 : j = o
    · subst h2
      rw [if_pos (by omega), if_neg (by omega), if_pos (by omega), List.getElem?_take_of_lt (by omega), List.getElem?_set_self (by omega)]
      simp
    · rw [if_neg (by omega), if_neg h1]
      by_cases h3 : j < o + 1 + r.length
      · rw [if_pos (by omega), if_pos (by omega), show j - o = (j - (o + 1)) + 1 by omega, List.getElem?_cons_succ]
      · rw [if_neg (by omega), if_neg (by omega), List.getElem?_drop, List.getElem?_drop, List.getElem?_set_ne (by omega)]
        congr 1
        omega

theorem splice_nil {α : Type} (l : List α) (o : Nat) : splice l o [] = l := by unfold splice; simp

theorem Blk.setCells {g : Nat} {t : TypeId} : ∀ (vs : List Value) (o : Nat) (w : World) (l : List Value), Blk w g t l → o + vs.length ≤ l.length → Blk (w.setCells g o vs) g t (splice l o vs)
  | [], o, w, l, h, _ => by rw [splice_nil]; exact h
  | v :: r, o, w, l, h, hl => by
    rw [World.setCells, ← splice_cons l o v r hl]
    exact Blk.setCells r (o + 1) _ _ (h.set o v) (by simp at hl ⊢; omega)

theorem setCells_heap (g : Nat) : ∀ (vs : List Value) (o : Nat) (w : World) (k : Nat), k ≠ g → (w.setCells g o vs).heap[k]? = w.heap[k]?
  | [], _, _, _, _ => rfl
  | v :: r, o, w, k, hk => by
    rw [World.setCells, setCells_heap g r (o + 1) _ k hk]
    exact Below.heap_setCell _ _ _ _ (fun e => hk (by simpa using e))

theorem setCells_size (g : Nat) : ∀ (vs : List Value) (o : Nat) (w : World), (w.setCells g o vs).heap.size = w.heap.size
  | [], _, _ => rfl
  | v :: r, o, w => by rw [World.setCells, setCells_size g r (o + 1) _]; simp [World.setCell]

theorem below_setCells {C : Nat} {w0 w : World} (h : Below C w0 w) (g : Nat) (hg : C ≤ g) : ∀ (vs : List Value) (o : Nat), Below C w0 (w.setCells g o vs)
  | [], _ => h
  | v :: r, o => by
    rw [World.setCells]
    exact below_setCells (h.setCell hg v) g hg r (o + 1)

theorem Blk.apart {w : World} {g : Nat} {t : TypeId} {l : List Value} (h : Blk w g t l) (g' o : Nat) (vs : List Value) (hne : g ≠ g') : Blk (w.setCells g' o vs) g t l :=
  h.carry (setCells_heap g' vs o w g hne)

theorem splice_all {α : Type} (l vs : List α) (h : vs.length = l.length) : splice l 0 vs = vs := by unfold splice; simp [h]

theorem Blk.store {w : World} {g : Nat} {t : TypeId} {l : List Value} (h : Blk w g t l) (vs : List Value) (hl : vs.length = l.length) : Blk (w.setCells g 0 vs) g t vs := by
  have := Blk.setCells vs 0 w l h (by omega)
  rwa [splice_all l vs hl] at this

theorem there_new (w : World) (t : TypeId) (l : List Value) (n : Nat) (hn : n = l.length) : (w.alloc (.cells l.toArray t)).there w.heap.size 0 n :=
  (Blk.new w t l).there 0 n (by omega)
theorem laid_new (w : World) (t : TypeId) (l cs : List Value) (hn : cs.length = l.length) : Blk ((w.alloc (.cells l.toArray t)).setCells w.heap.size 0 cs) w.heap.size t cs ∧ Below w.heap.size w ((w.alloc (.cells l.toArray t)).setCells w.heap.size 0 cs) :=
  ⟨(Blk.new w t l).store cs hn, below_setCells ((Below.refl _ _).alloc (Nat.le_refl _) _) _ (Nat.le_refl _) _ _⟩
section
variable {P : Program}
/-- A whole array into a block that was just made for it. -/
theorem wpList_store_new {ops : Array Oper} {rest : List Oper} {op : Oper} {a : Act} {Q : Exit → Act → World → Prop} (hgd : op.guard = none) (ty : TypeId) (x y : Operand) (ho : op.op = .store ty x y)
    (w0 : World) (l cs : List Value) (hx : a.eval x = .pointer (some ⟨w0.heap.size, 0, none⟩)) (hy : a.eval y = .agg cs.toArray) (hlen : cs.length = l.length) (hi : (P.info? ty).map (·.size) = some cs.length) (h1 : ∀ v ∈ cs, v.oneCell' = true)
    (h : ∀ w2, Blk w2 w0.heap.size ty cs → Below w0.heap.size w0 w2 → wpList P ops Q rest (a.put op.dst undef) w2) : wpList P ops Q (op :: rest) a (w0.alloc (.cells l.toArray ty)) := by
  obtain ⟨h2, h3⟩ := laid_new w0 ty l cs hlen
  refine wpList_store_mid hgd ty x y ho w0.heap.size 0 cs.toArray hx hy (there_new w0 ty l _ (by simp [hlen])) (by simpa using hi) (all_oneCell_toArray h1) (h _ h2 h3)

/-- A whole array into a block that is known. -/
theorem wpList_store_blk {ops : Array Oper} {rest : List Oper} {op : Oper} {a : Act} {w : World} {Q : Exit → Act → World → Prop} (hgd : op.guard = none) (ty : TypeId) (x y : Operand) (ho : op.op = .store ty x y)
    (g : Nat) (t : TypeId) (l cs : List Value) (hb : Blk w g t l) (hx : a.eval x = .pointer (some ⟨g, 0, none⟩)) (hy : a.eval y = .agg cs.toArray) (hlen : cs.length = l.length) (hi : (P.info? ty).map (·.size) = some cs.length) (h1 : ∀ v ∈ cs, v.oneCell' = true)
    (h : ∀ w2, Blk w2 g t cs → w.grownBy w2 (some g) → wpList P ops Q rest (a.put op.dst undef) w2) : wpList P ops Q (op :: rest) a w := by
  refine wpList_store_mid hgd ty x y ho g 0 cs.toArray hx hy (hb.there 0 _ (by simp [hlen])) (by simpa using hi) (all_oneCell_toArray h1) (h _ (hb.store cs hlen) ?_)
  refine ⟨?_, ?_, ?_, by rw [setCells_size]; exact Nat.le_refl _, fun k _ hk => setCells_heap g _ _ _ k (fun e => hk (by rw [e]))⟩
  all_goals first | exact (below_setCells (Below.refl 0 w) g (Nat.zero_le _) _ _).os | exact (below_setCells (Below.refl 0 w) g (Nat.zero_le _) _ _).tape | exact (below_setCells (Below.refl 0 w) g (Nat.zero_le _) _ _).output

/-- A whole array out of a block that is known. -/
theorem wpList_load_blk {ops : Array Oper} {rest : List Oper} {op : Oper} {a : Act} {w : World} {Q : Exit → Act → World → Prop} (hgd : op.guard = none) (ty : TypeId) (x : Operand) (ho : op.op = .load ty x)
    (g : Nat) (t : TypeId) (l : List Value) (hb : Blk w g t l) (hx : a.eval x = .pointer (some ⟨g, 0, none⟩)) (d : TypeDesc) (hu : P.underlying ty = some d) (hd : d.isRow = true) (hi : (P.info? ty).map (·.size) = some l.length)
    (h : wpList P ops Q rest (a.put op.dst (.agg l.toArray)) w) : wpList P ops Q (op :: rest) a w :=
  wpList_load_mid hgd ty x ho g 0 hx l d hb.whole hu hd hi h
end
end Go.Proofs.YtogfmpjgmabomaaDoor
