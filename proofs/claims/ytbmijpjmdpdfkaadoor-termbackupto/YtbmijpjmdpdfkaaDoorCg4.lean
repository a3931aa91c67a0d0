/- Levels that are being copied, list by list: which lists are copied whole, which still lean on the old ones. Plain facts of worlds, of no program. -/
import Derived.Test.YtbmijpjmdpdfkaaDoorTa4
import Derived.Test.YtbmijpjmdpdfkaaDoorOf
import Derived.Test.YtbmijpjmdpdfkaaDoorForm
namespace Go.Proofs.YtbmijpjmdpdfkaaDoor
open Go.RowKit

/-- A list's cells, one by one. -/
theorem inall_cells {w : World} {S : Nat → Prop} {b : Nat} {l : List Lv} : ∀ {off : Nat}, InAll w S b off l → ∃ vs : List Value, vs.length = l.length * 3 ∧ (∀ j u, vs[j]? = some u → w.cell? ⟨b, off + j, none⟩ = some u) ∧ ∀ u ∈ vs, u.oneCell' = true := by
  induction l with
  | nil => intro off _; exact ⟨[], rfl, fun j u h => by simp at h, fun u h => by cases h⟩
  | cons x r ih =>
    intro off h
    rw [inAll_cons] at h
    obtain ⟨⟨c0, c1, c2, e0, e1, e2, hx⟩, hr⟩ := h
    obtain ⟨vs, h1, h2, h3⟩ := ih hr
    obtain ⟨k, n, args⟩ := x
    obtain ⟨a, cap, e, _⟩ := hx.node
    simp only [Value.agg.injEq, Array.mk.injEq, List.cons.injEq, and_true] at e
    obtain ⟨rfl, rfl, rfl⟩ := e
    refine ⟨.int .i64 k :: .int .i64 n :: .slice a args.length cap :: vs, by simp [h1]; omega, fun j u hj => ?_, fun u hu => ?_⟩
    · match j, hj with
      | 0, hj => simp at hj; subst hj; exact e0
      | 1, hj => simp at hj; subst hj; exact e1
      | 2, hj => simp at hj; subst hj; exact e2
      | j + 3, hj =>
        have := h2 j u (by simpa using hj)
        rw [show off + (j + 3) = off + 3 + j by omega]; exact this
    · simp only [List.mem_cons] at hu
      rcases hu with rfl | rfl | rfl | hu
      · rfl
      · rfl
      · rfl
      · exact h3 u hu

/-- The same cells elsewhere are the same list. -/
theorem inall_copy {w w' : World} {S : Nat → Prop} {b g : Nat} {l : List Lv} (hS : ∀ k, S k → w'.heap[k]? = w.heap[k]?) : ∀ {off o : Nat}, InAll w S b off l → (∀ j, j < l.length * 3 → w'.cell? ⟨g, o + j, none⟩ = w.cell? ⟨b, off + j, none⟩) → InAll w' S g o l := by
  induction l with
  | nil => intro off o _ _; rw [InAll]; trivial
  | cons x r ih =>
    intro off o h hc
    rw [inAll_cons] at h ⊢
    obtain ⟨⟨c0, c1, c2, e0, e1, e2, hx⟩, hr⟩ := h
    refine ⟨⟨c0, c1, c2, (hc 0 (by simp)).trans e0, (hc 1 (by simp; omega)).trans e1, (hc 2 (by simp; omega)).trans e2, In.carry hS (fun _ h => h) _ _ hx⟩, ih hr fun j hj => ?_⟩
    have := hc (j + 3) (by simp; omega)
    rw [show o + 3 + j = o + (j + 3) by omega, show off + 3 + j = off + (j + 3) by omega]; exact this

/-- A list that was made: its block, what it says, its capacity. -/
structure Cp where
  g : Nat
  l : List Lv
  c : Nat
def Cp.val (x : Cp) : Value := .slice (some ⟨x.g, 0, none⟩) x.l.length x.c
def cpVals : List Cp → List Value
  | [] => []
  | x :: r => cpVals r ++ [x.val]
theorem cpVals_len (P : List Cp) : (cpVals P).length = P.length := by
  induction P with
  | nil => rfl
  | cons x r ih => simp [cpVals, ih]
def cpMass : List Cp → Nat
  | [] => 0
  | x :: r => Lv.sizes x.l + cpMass r

/-- A level of a list that is copied whole. -/
def ElNew (w : World) (A : List Cp) (g j : Nat) : Lv → Prop
  | .mk k n args => w.cell? ⟨g, j * 3, none⟩ = some (.int .i64 k) ∧ w.cell? ⟨g, j * 3 + 1, none⟩ = some (.int .i64 n) ∧ (-9223372036854775808 ≤ k ∧ k ≤ 9223372036854775807) ∧ (-9223372036854775808 ≤ n ∧ n ≤ 9223372036854775807) ∧
    ((args = [] ∧ w.cell? ⟨g, j * 3 + 2, none⟩ = some (.slice none 0 0)) ∨ ∃ y ∈ A, y.l = args ∧ w.cell? ⟨g, j * 3 + 2, none⟩ = some y.val)
/-- A level that still leans on the old list. -/
def ElOld (w : World) (B g j : Nat) : Lv → Prop
  | .mk k n args => ∃ a c, w.cell? ⟨g, j * 3, none⟩ = some (.int .i64 k) ∧ w.cell? ⟨g, j * 3 + 1, none⟩ = some (.int .i64 n) ∧ w.cell? ⟨g, j * 3 + 2, none⟩ = some (.slice a args.length c) ∧ Node w (· < B) k n args a c

/-- A list of which the first i are copied whole. -/
def CpAt (w : World) (B : Nat) (A : List Cp) (x : Cp) (i : Nat) : Prop := ∀ j L, x.l[j]? = some L → (j < i → ElNew w A x.g j L) ∧ (i ≤ j → ElOld w B x.g j L)

structure CpOk (w : World) (B : Nat) (x : Cp) : Prop where
  ge : B ≤ x.g
  ty : ∃ cs, w.heap[x.g]? = some (.cells cs 58 (0, 0)) ∧ x.l.length * 3 ≤ cs.size
  le : x.l.length ≤ x.c
  max : x.c ≤ 9223372036854775807
  pos : 0 < x.l.length

theorem CpOk.lt {w : World} {B : Nat} {x : Cp} (h : CpOk w B x) : x.g < w.heap.size := by obtain ⟨cs, h, _⟩ := h.ty; exact (Array.getElem?_eq_some_iff.1 h).1
theorem ElNew.carry {w w' : World} {A A' : List Cp} {g j : Nat} (hb : w'.heap[g]? = w.heap[g]?) (hA : ∀ y ∈ A, y ∈ A') : ∀ {L : Lv}, ElNew w A g j L → ElNew w' A' g j L
  | .mk _ _ _, ⟨h1, h2, h3, h4, h5⟩ => ⟨(World.cell?_of_block hb).trans h1, (World.cell?_of_block hb).trans h2, h3, h4, h5.imp (fun ⟨e, h⟩ => ⟨e, (World.cell?_of_block hb).trans h⟩) (fun ⟨y, hy, e, h⟩ => ⟨y, hA y hy, e, (World.cell?_of_block hb).trans h⟩)⟩
theorem ElOld.carry {w w' : World} {B g j : Nat} (hb : w'.heap[g]? = w.heap[g]?) (hB : ∀ k, k < B → w'.heap[k]? = w.heap[k]?) : ∀ {L : Lv}, ElOld w B g j L → ElOld w' B g j L
  | .mk _ _ _, ⟨a, c, h1, h2, h3, h4⟩ => ⟨a, c, (World.cell?_of_block hb).trans h1, (World.cell?_of_block hb).trans h2, (World.cell?_of_block hb).trans h3, h4.carry hB (fun _ h => h)⟩
theorem CpAt.carry {w w' : World} {B : Nat} {A A' : List Cp} {x : Cp} {i : Nat} (h : CpAt w B A x i) (hb : w'.heap[x.g]? = w.heap[x.g]?) (hB : ∀ k, k < B → w'.heap[k]? = w.heap[k]?) (hA : ∀ y ∈ A, y ∈ A') : CpAt w' B A' x i :=
  fun j L hj => ⟨fun hi => ((h j L hj).1 hi).carry hb hA, fun hi => ((h j L hj).2 hi).carry hb hB⟩
theorem CpOk.carry {w w' : World} {B : Nat} {x : Cp} (h : CpOk w B x) (hb : w'.heap[x.g]? = w.heap[x.g]?) : CpOk w' B x := by
  obtain ⟨cs, h1, h2⟩ := h.ty
  exact ⟨h.ge, ⟨cs, hb.trans h1, h2⟩, h.le, h.max, h.pos⟩

/-- What of the list under way is still to be copied. -/
def curLeft : Option (Cp × Nat) → Nat
  | some (y, i) => Lv.belows (y.l.drop i)
  | none => 0
/-- All lists that were made; those of P still lean on the old ones; x is under way, i of it are copied whole. -/
structure CI (w wr : World) (A P : List Cp) (x : Option (Cp × Nat)) (N : Nat) : Prop where
  low : Below w.heap.size w wr
  ok : ∀ y ∈ A, CpOk wr w.heap.size y
  inj : ∀ y ∈ A, ∀ z ∈ A, y.g = z.g → y = z
  pend : ∀ y ∈ P, y ∈ A ∧ CpAt wr w.heap.size A y 0
  nodup : P.Nodup
  cur : ∀ y i, x = some (y, i) → y ∈ A ∧ y ∉ P ∧ i ≤ y.l.length ∧ CpAt wr w.heap.size A y i
  done : ∀ y ∈ A, y ∉ P → (∀ z i, x = some (z, i) → y ≠ z) → CpAt wr w.heap.size A y y.l.length
  mass : cpMass P + curLeft x ≤ N

/-- All is copied: the list as it was, in new memory alone. -/
theorem CI.whole {w wr : World} {A : List Cp} {N : Nat} (h : CI w wr A [] none N) {S : Nat → Prop} (hS : ∀ y ∈ A, S y.g) : ∀ (m : Nat) (x : Cp), Lv.sizes x.l ≤ m → x ∈ A → InAll wr S x.g 0 x.l := by
  intro m
  induction m with
  | zero =>
    intro x hm hx
    have := (h.ok x hx).pos
    have := Lv.sizes_belows x.l
    omega
  | succ m ih =>
    intro x hm hx
    have hd := h.done x hx (by simp) (fun z i e => by cases e)
    refine InAll.of_get fun i L hi => ?_
    obtain ⟨k, n, args⟩ := L
    have hlt := (List.getElem?_eq_some_iff.1 hi).1
    obtain ⟨h1, h2, h3, h4, h5⟩ := (hd i _ hi).1 hlt
    have hsz : Lv.sizes args + 1 ≤ Lv.sizes x.l := by
      have := Lv.size_mem (List.mem_of_getElem? hi)
      rw [Lv.size_mk] at this
      exact this
    simp only [Nat.zero_add]
    rcases h5 with ⟨rfl, h5⟩ | ⟨y, hy, rfl, h5⟩
    · exact ⟨_, _, _, h1, h2, h5, in_mk.2 ⟨none, 0, rfl, h3, h4, Nat.le_refl _, by unfold maxLen; omega, .inl rfl⟩⟩
    · exact ⟨_, _, _, h1, h2, h5, in_mk.2 ⟨_, y.c, rfl, h3, h4, (h.ok y hy).le, by unfold maxLen; exact (h.ok y hy).max, .inr ⟨y.g, 0, rfl, hS y hy, ih y (by omega) hy⟩⟩⟩
end Go.Proofs.YtbmijpjmdpdfkaaDoor

/- The steps of a copy of Levels. Plain facts of worlds, of no program. -/
namespace Go.Proofs.YtbmijpjmdpdfkaaDoor
open Go.RowKit

theorem elold_of {w : World} {B g : Nat} {l : List Lv} (h : InAll w (· < B) g 0 l) (A : List Cp) (c : Nat) : CpAt w B A ⟨g, l, c⟩ 0 := fun j L hj => ⟨fun h => by omega, fun _ => by
  obtain ⟨c0, c1, c2, e0, e1, e2, hin⟩ := h.get j L hj
  obtain ⟨k, n, args⟩ := L
  obtain ⟨a, cap, e, hN⟩ := hin.node
  simp only [Value.agg.injEq, Array.mk.injEq, List.cons.injEq, and_true] at e
  obtain ⟨rfl, rfl, rfl⟩ := e
  simp only [Nat.zero_add] at e0 e1 e2
  exact ⟨a, cap, e0, e1, e2, hN⟩⟩

theorem CI.carry {w wr wr' : World} {A P : List Cp} {x : Option (Cp × Nat)} {N : Nat} (h : CI w wr A P x N) (hl : Below w.heap.size wr wr') (hA : ∀ y ∈ A, wr'.heap[y.g]? = wr.heap[y.g]?) : CI w wr' A P x N :=
  ⟨h.low.trans hl, fun y hy => (h.ok y hy).carry (hA y hy), h.inj, fun y hy => ⟨(h.pend y hy).1, (h.pend y hy).2.carry (hA y (h.pend y hy).1) (fun k hk => hl.block k hk) (fun _ h => h)⟩, h.nodup,
    fun y i e => ⟨(h.cur y i e).1, (h.cur y i e).2.1, (h.cur y i e).2.2.1, (h.cur y i e).2.2.2.carry (hA y (h.cur y i e).1) (fun k hk => hl.block k hk) (fun _ h => h)⟩,
    fun y hy h1 h2 => (h.done y hy h1 h2).carry (hA y hy) (fun k hk => hl.block k hk) (fun _ h => h), h.mass⟩
theorem CI.drewN {w wr : World} {A P : List Cp} {x : Option (Cp × Nat)} {N : Nat} (h : CI w wr A P x N) (q : Nat) : CI w (wr.drewN q) A P x N := h.carry ⟨rfl, rfl, rfl, Nat.le_refl _, fun _ _ => rfl⟩ (fun _ _ => rfl)

theorem CI.start {w w1 : World} {g c : Nat} {l : List Lv} (hl : Below w.heap.size w w1) (hok : CpOk w1 w.heap.size ⟨g, l, c⟩) (hin : InAll w1 (· < w.heap.size) g 0 l) : CI w w1 [⟨g, l, c⟩] [⟨g, l, c⟩] none (Lv.sizes l) :=
  ⟨hl, fun y hy => by rw [List.mem_singleton.1 hy]; exact hok, fun y hy z hz _ => by rw [List.mem_singleton.1 hy, List.mem_singleton.1 hz], fun y hy => ⟨hy, by rw [List.mem_singleton.1 hy]; exact elold_of hin _ _⟩, by simp,
    (fun y i e => by cases e), (fun y hy hn _ => (hn hy).elim), by simp [cpMass, curLeft]⟩

theorem CI.take {w wr : World} {A P : List Cp} {x : Cp} {N : Nat} (h : CI w wr A (x :: P) none N) : CI w wr A P (some (x, 0)) N := by
  have hn := List.nodup_cons.1 h.nodup
  refine ⟨h.low, h.ok, h.inj, fun y hy => h.pend y (List.mem_cons_of_mem _ hy), hn.2, fun y i e => ?_, fun y hy h1 h2 => ?_, ?_⟩
  · simp only [Option.some.injEq, Prod.mk.injEq] at e
    obtain ⟨rfl, rfl⟩ := e
    exact ⟨(h.pend x (List.mem_cons_self ..)).1, hn.1, Nat.zero_le _, (h.pend x (List.mem_cons_self ..)).2⟩
  · exact h.done y hy (fun hm => by
      rcases List.mem_cons.1 hm with e | hm
      · exact h2 x 0 rfl e
      · exact h1 hm) (fun z i e => by cases e)
  · have := h.mass
    have := Lv.sizes_belows x.l
    simp only [cpMass, curLeft, List.drop_zero] at *
    omega

theorem CI.finish {w wr : World} {A P : List Cp} {x : Cp} {N : Nat} (h : CI w wr A P (some (x, x.l.length)) N) : CI w wr A P none N := by
  obtain ⟨c1, c2, c3, c4⟩ := h.cur x _ rfl
  refine ⟨h.low, h.ok, h.inj, h.pend, h.nodup, (fun y i e => by cases e), fun y hy h1 _ => ?_, by have := h.mass; simp only [curLeft] at this ⊢; omega⟩
  by_cases e : y = x
  · rw [e]; exact c4
  · exact h.done y hy h1 (fun z i e' => by simp only [Option.some.injEq, Prod.mk.injEq] at e'; rw [← e'.1]; exact e)

/-- One of the cells of x is written. -/
theorem cp_set {w wr : World} {A A' P : List Cp} {x : Cp} {i N : Nat} {k n : Int} {args : List Lv} {v : Value} (h : CI w wr A P (some (x, i)) N) (hi : x.l[i]? = some (.mk k n args)) (hA : ∀ y ∈ A, y ∈ A')
    (hv : (args = [] ∧ v = .slice none 0 0) ∨ ∃ y ∈ A', y.l = args ∧ v = y.val) : CpAt (wr.setCell ⟨x.g, i * 3 + 2, none⟩ v) w.heap.size A' x (i + 1) := by
  obtain ⟨c1, c2, c3, c4⟩ := h.cur x _ rfl
  have hok := h.ok x c1
  have hge := hok.ge
  have hB : ∀ k, k < w.heap.size → (wr.setCell ⟨x.g, i * 3 + 2, none⟩ v).heap[k]? = wr.heap[k]? := fun k hk => Below.heap_setCell _ _ _ _ (fun e => by have e' : k = x.g := e; omega)
  have hother : ∀ c, c ≠ i * 3 + 2 → (wr.setCell ⟨x.g, i * 3 + 2, none⟩ v).cell? ⟨x.g, c, none⟩ = wr.cell? ⟨x.g, c, none⟩ := fun c hc => World.cell?_setCell_other _ _ _ _ (fun e => hc (by injection e with _ h2 _; exact h2.symm))
  have hlt := (List.getElem?_eq_some_iff.1 hi).1
  intro j L hj
  by_cases hji : j = i
  · subst hji
    rw [hi] at hj
    simp only [Option.some.injEq] at hj
    subst hj
    refine ⟨fun _ => ?_, fun h => by omega⟩
    obtain ⟨a, c, e0, e1, e2, hN⟩ := (c4 j _ hi).2 (Nat.le_refl _)
    refine ⟨(hother _ (by omega)).trans e0, (hother _ (by omega)).trans e1, ⟨hN.k0, hN.k1⟩, ⟨hN.n0, hN.n1⟩, ?_⟩
    have hs := World.cell?_setCell_same wr ⟨x.g, j * 3 + 2, none⟩ v e2
    rcases hv with ⟨e, rfl⟩ | ⟨y, hy, e, rfl⟩
    · exact .inl ⟨e, hs⟩
    · exact .inr ⟨y, hy, e, hs⟩
  · refine ⟨fun hl => ?_, fun hl => ?_⟩
    · have := (c4 j L hj).1 (by omega)
      obtain ⟨k', n', args'⟩ := L
      obtain ⟨e0, e1, e2, e3, e4⟩ := this
      exact ⟨(hother _ (by omega)).trans e0, (hother _ (by omega)).trans e1, e2, e3, e4.imp (fun ⟨e, h⟩ => ⟨e, (hother _ (by omega)).trans h⟩) (fun ⟨y, hy, e, h⟩ => ⟨y, hA y hy, e, (hother _ (by omega)).trans h⟩)⟩
    · have := (c4 j L hj).2 (by omega)
      obtain ⟨k', n', args'⟩ := L
      obtain ⟨a, c, e0, e1, e2, e3⟩ := this
      exact ⟨a, c, (hother _ (by omega)).trans e0, (hother _ (by omega)).trans e1, (hother _ (by omega)).trans e2, e3.carry hB (fun _ h => h)⟩

theorem CpOk.set {w : World} {B : Nat} {y : Cp} (h : CpOk w B y) (g c : Nat) (v : Value) : CpOk (w.setCell ⟨g, c, none⟩ v) B y := by
  obtain ⟨cs, h1, h2⟩ := h.ty
  refine ⟨h.ge, ?_, h.le, h.max, h.pos⟩
  by_cases e : g = y.g
  · exact ⟨cs.setIfInBounds c v, by rw [e]; simp [World.setCell, Array.getElem?_modify, h1], by simpa using h2⟩
  · exact ⟨cs, (Below.heap_setCell _ _ _ _ (fun e' => e e'.symm)).trans h1, h2⟩

theorem CI.empty {w wr : World} {A P : List Cp} {x : Cp} {i N : Nat} {k n : Int} (h : CI w wr A P (some (x, i)) N) (hi : x.l[i]? = some (.mk k n [])) : CI w (wr.setCell ⟨x.g, i * 3 + 2, none⟩ (.slice none 0 0)) A P (some (x, i + 1)) N := by
  obtain ⟨c1, c2, c3, c4⟩ := h.cur x _ rfl
  have hge := (h.ok x c1).ge
  have hlt := (List.getElem?_eq_some_iff.1 hi).1
  have hB : ∀ k, k < w.heap.size → (wr.setCell ⟨x.g, i * 3 + 2, none⟩ (.slice none 0 0)).heap[k]? = wr.heap[k]? := fun k hk => Below.heap_setCell _ _ _ _ (fun e => by have e' : k = x.g := e; omega)
  have hO : ∀ y ∈ A, y ≠ x → (wr.setCell ⟨x.g, i * 3 + 2, none⟩ (.slice none 0 0)).heap[y.g]? = wr.heap[y.g]? := fun y hy hne => Below.heap_setCell _ _ _ _ (fun e => hne (h.inj y hy x c1 e))
  refine ⟨h.low.setCell (p := ⟨x.g, i * 3 + 2, none⟩) hge _, fun y hy => (h.ok y hy).set _ _ _, h.inj, fun y hy => ⟨(h.pend y hy).1, (h.pend y hy).2.carry (hO y (h.pend y hy).1 (fun e => c2 (e ▸ hy))) hB (fun _ h => h)⟩, h.nodup, fun y j e => ?_, fun y hy h1 h2 => ?_, ?_⟩
  · simp only [Option.some.injEq, Prod.mk.injEq] at e
    obtain ⟨rfl, rfl⟩ := e
    exact ⟨c1, c2, by omega, cp_set h hi (fun _ h => h) (.inl ⟨rfl, rfl⟩)⟩
  · have hne := h2 x (i + 1) rfl
    exact (h.done y hy h1 (fun z j e => by simp only [Option.some.injEq, Prod.mk.injEq] at e; rw [← e.1]; exact hne)).carry (hO y hy hne) hB (fun _ h => h)
  · have := h.mass
    have hb := Lv.belows_drop hi
    simp only [curLeft] at this ⊢
    simp only [Lv.sizes] at hb
    omega

theorem CI.push {w wr w1 : World} {A P : List Cp} {x y : Cp} {i N : Nat} {k n : Int} {args : List Lv} (h : CI w wr A P (some (x, i)) N) (hi : x.l[i]? = some (.mk k n args)) (hb : Below wr.heap.size wr w1) (hyg : wr.heap.size ≤ y.g) (hyl : y.l = args) (hok : CpOk w1 w.heap.size y) (hin : InAll w1 (· < w.heap.size) y.g 0 args) :
    CI w (w1.setCell ⟨x.g, i * 3 + 2, none⟩ y.val) (y :: A) (y :: P) (some (x, i + 1)) N := by
  have hB1 : Below w.heap.size wr w1 := hb.mono h.low.size
  have h1 := h.carry hB1 (fun z hz => hb.block _ (h.ok z hz).lt)
  obtain ⟨c1, c2, c3, c4⟩ := h1.cur x _ rfl
  have hge := (h1.ok x c1).ge
  have hxlt := (h.ok x c1).lt
  have hlt := (List.getElem?_eq_some_iff.1 hi).1
  have hB : ∀ k, k < w.heap.size → (w1.setCell ⟨x.g, i * 3 + 2, none⟩ y.val).heap[k]? = w1.heap[k]? := fun k hk => Below.heap_setCell _ _ _ _ (fun e => by have e' : k = x.g := e; omega)
  have hO : ∀ z ∈ A, z ≠ x → (w1.setCell ⟨x.g, i * 3 + 2, none⟩ y.val).heap[z.g]? = w1.heap[z.g]? := fun z hz hne => Below.heap_setCell _ _ _ _ (fun e => hne (h.inj z hz x c1 e))
  have hyO : (w1.setCell ⟨x.g, i * 3 + 2, none⟩ y.val).heap[y.g]? = w1.heap[y.g]? := Below.heap_setCell _ _ _ _ (fun e => by have e' : y.g = x.g := e; omega)
  have hyA : ∀ z ∈ A, z.g ≠ y.g := fun z hz e => by have := (h.ok z hz).lt; omega
  have hup : ∀ z ∈ A, z ∈ y :: A := fun z hz => List.mem_cons_of_mem _ hz
  have hyx : y ≠ x := fun e => by rw [e] at hyg; omega
  refine ⟨h1.low.setCell (p := ⟨x.g, i * 3 + 2, none⟩) hge _, fun z hz => ?_, fun a ha b hb' e => ?_, fun z hz => ?_, ?_, fun z j e => ?_, fun z hz hn1 hn2 => ?_, ?_⟩
  · rcases List.mem_cons.1 hz with rfl | hz
    · exact hok.set _ _ _
    · exact (h1.ok z hz).set _ _ _
  · rcases List.mem_cons.1 ha with e1 | ha
    · rcases List.mem_cons.1 hb' with e2 | hb'
      · rw [e1, e2]
      · exact (hyA b hb' (by rw [← e, e1])).elim
    · rcases List.mem_cons.1 hb' with e2 | hb'
      · exact (hyA a ha (by rw [e, e2])).elim
      · exact h.inj a ha b hb' e
  · rcases List.mem_cons.1 hz with rfl | hz
    · refine ⟨List.mem_cons_self .., ?_⟩
      have := elold_of (l := z.l) (g := z.g) (by rw [hyl]; exact hin) (z :: A) z.c
      exact CpAt.carry (x := z) this hyO hB (fun _ h => h)
    · exact ⟨hup z (h1.pend z hz).1, (h1.pend z hz).2.carry (hO z (h1.pend z hz).1 (fun e => c2 (e ▸ hz))) hB hup⟩
  · refine List.nodup_cons.2 ⟨fun hm => ?_, h.nodup⟩
    exact hyA y (h.pend y hm).1 rfl
  · simp only [Option.some.injEq, Prod.mk.injEq] at e
    obtain ⟨rfl, rfl⟩ := e
    exact ⟨hup _ c1, fun hm => by rcases List.mem_cons.1 hm with e | hm; exact hyx e.symm; exact c2 hm, by omega, cp_set h1 hi hup (.inr ⟨y, List.mem_cons_self .., hyl, rfl⟩)⟩
  · have hne := hn2 x (i + 1) rfl
    rcases List.mem_cons.1 hz with rfl | hz
    · exact (hn1 (List.mem_cons_self ..)).elim
    · exact (h1.done z hz (fun hm => hn1 (List.mem_cons_of_mem _ hm)) (fun a j e => by simp only [Option.some.injEq, Prod.mk.injEq] at e; rw [← e.1]; exact hne)).carry (hO z hz hne) hB hup
  · have := h.mass
    have hb := Lv.belows_drop hi
    simp only [cpMass, curLeft, hyl] at this ⊢
    omega
end Go.Proofs.YtbmijpjmdpdfkaaDoor

/- The walks of term's isAlike of parts that are alike, and of a likeness' opens and holds of no Levels. No condition but that the parts lie in memory. -/
namespace Go.Proofs.YtbmijpjmdpdfkaaDoor
open Go.RowKit

set_option maxRecDepth 100000 in
set_option maxHeartbeats 400000 in
theorem alike_self (b off d m b' off' d' m' : Nat) (T : Tr) (w : World) (hc : TCells w b off T) (hc' : TCells w b' off' T) :
    Calls Tryd.prog 58 #[.agg #[.pointer (some ⟨b, off, none⟩), .int .i64 (d : Int), .int .i64 (m : Int)], .agg #[.pointer (some ⟨b', off', none⟩), .int .i64 (d' : Int), .int .i64 (m' : Int)]] w fun e w' => e = .returned (.bool true) ∧ Below w.heap.size w w' := by
  have hlb := hc.lt
  have hlb' := hc'.lt
  have c0 := hc.c0
  have c1 := hc.c1
  have c2 := hc.c2
  have c4 := hc.c4
  have e0 := hc'.c0
  have e1 := hc'.c1
  have e2 := hc'.c2
  have e4 := hc'.c4
  generalize T.k = k at *
  generalize T.n = n at *
  generalize T.s = s at *
  generalize T.args.length = len at *
  generalize T.c = cap at *
  generalize T.a = ta at *
  clear hc hc'
  obtain ⟨w1, hw1, hb1, P1, P2, hs1⟩ := two_new w [.pointer (some ⟨b, off, none⟩), .int .i64 (d : Int), .int .i64 (m : Int)] [.pointer (some ⟨b', off', none⟩), .int .i64 (d' : Int), .int .i64 (m' : Int)] 50 50
  have p0 := over_cell (P1.cell (j := 0) rfl)
  have q0 := over_cell (P2.cell (j := 0) rfl)
  have C0 := over_cell (((bcell hb1).1 b off hlb).trans c0)
  have C1 := over_cell (((bcell hb1).1 b (off + 1) hlb).trans c1)
  have C2 := over_cell (((bcell hb1).1 b (off + 2) hlb).trans c2)
  have C4 := over_cell (((bcell hb1).1 b (off + 4) hlb).trans c4)
  have E0 := over_cell (((bcell hb1).1 b' off' hlb').trans e0)
  have E1 := over_cell (((bcell hb1).1 b' (off' + 1) hlb').trans e1)
  have E2 := over_cell (((bcell hb1).1 b' (off' + 2) hlb').trans e2)
  have E4 := over_cell (((bcell hb1).1 b' (off' + 4) hlb').trans e4)
  clear c0 c1 c2 c4 e0 e1 e2 e4
  go_enter Tryd.func58, Tryd.ntmps58
  go_wp2_with fail
  refine wp_region_over w1 (Below.refl _ _) (by kernel_rfl) (by kernel_rfl) ?_
  repeat (go_big_quiet_step (fail))
  refine wpQuiet_nil ?_
  rintro _ ⟨u, rfl⟩
  go_wp2_with fail
  refine wp_region_over w1 (over_below w1 u) (by kernel_rfl) (by kernel_rfl) ?_
  repeat (go_big_quiet_step (fail))
  refine wpQuiet_nil ?_
  rintro _ ⟨u2, rfl⟩
  go_wp2_with fail
  go_ret
  exact ⟨ret_bool (by simp), hb1.trans ((over_below w1 u2).mono (by omega))⟩

set_option maxRecDepth 100000 in
set_option maxHeartbeats 400000 in
theorem opens_nil (g : Option Addr) (la la' : Option Addr) (lc lc' : Nat) (w : World) :
    Calls Tryd.prog 84 #[.pointer g, .agg #[.slice la 0 lc, .slice la' 0 lc']] w fun e w' => e = .returned (.bool true) ∧ Below w.heap.size w w' := by
  obtain ⟨w1, hw1, hb1, P1, hs1⟩ := one_new w [.slice la 0 lc, .slice la' 0 lc'] 126
  have p0 := P1.cell (j := 0) rfl
  have p1 := P1.cell (j := 1) rfl
  go_enter Tryd.func84, Tryd.ntmps84
  go_wp2_with fail
  go_ret
  exact ⟨rfl, hb1⟩

/-- append onto a row of the call's own. -/
theorem wpList_append_two {P : Program} {ops : Array Oper} {rest : List Oper} {o : Oper} {a : Act} {w : World} {Q : Exit → Act → World → Prop}
    (hg : o.guard = none) (s x : Operand) (t : TypeId) (hop : o.op = Op.call { callee := Callee.builtin Builtin.append, args := #[s, x], argTypes := #[t, t] })
    (base : Nat) (e : TypeId) (i : TypeInfo) (z : Value) (size bytes : Nat) (h1 : P.underlying t = some (.slice e)) (h2 : P.info? e = some i) (h3 : i.zero = some z) (h4 : i.size = size) (h5 : i.bytes = bytes) (h6 : z.cells.size = size) (h7 : 0 < size)
    (v : Value) (n : Nat) (xs : List Value) (hs : a.eval s = v) (hown : w.ownsRow base e size v n xs)
    (ad : Addr) (m c : Nat) (news : List Value) (hx : a.eval x = .slice (some ad) m c) (hn : news.length = m * size) (hc : ∀ j u, news[j]? = some u → w.cell? (ad.add j) = some u) (h1c : ∀ u ∈ news, u.oneCell' = true)
    (b1 : n + m ≤ maxLen) (b2 : (n + m) * bytes ≤ 140737488355328) (hbase : base ≤ w.heap.size)
    (hm : 0 < m) (hK : ∀ v' w', w'.ownsRow base e size v' (n + m) (xs ++ news) → w.grownBy w' v.ownBlock → (v'.ownBlock = v.ownBlock ∨ ∃ b, v'.ownBlock = some b ∧ w.heap.size ≤ b) → wpList P ops Q rest (a.put o.dst v') w') :
    wpList P ops Q (o :: rest) a w :=
  wpList_plain hg fun K hK' => by
    obtain ⟨v', w', hrun, r1, r2, r3⟩ := run_append_two (P := P) w base t o.type e i z size bytes h1 h2 h3 h4 h5 h6 h7 v n xs hown ad m c news hn hc h1c b1 b2 hbase hm
    unfold Oper.wp
    simp [execOp, hop, resolve, invoke, builtin, hs, hx, hrun, Result.andThen]
    exact hK' _ _ (hK v' w' r1 r2 r3)

theorem Keep.grown {w w' : World} {row : Option Nat} (hg : w.grownBy w' row) : Keep w w' (fun k => row = some k) := ⟨hg.os, hg.tape, hg.output, hg.size, fun k hk hn => hg.block k hk (fun e => hn e.symm)⟩

theorem info126 : ∃ i, Tryd.prog.info? 126 = some i ∧ i.zero = some (.agg #[.slice none 0 0, .slice none 0 0]) ∧ i.size = 2 ∧ i.bytes = 48 := by
  have h : (Tryd.prog.info? 126).map (fun i => (i.zero, i.size, i.bytes)) = some (some (.agg #[.slice none 0 0, .slice none 0 0]), 2, 48) := by kernel_rfl
  obtain ⟨i, hi, he⟩ := Option.map_eq_some_iff.1 h
  simp only [Prod.mk.injEq] at he
  exact ⟨i, hi, he⟩

/-- A likeness between two of its questions: nothing is open. -/
structure Lk (w : World) (B g : Nat) (m mp v : Value) : Prop where
  blk : Blk w g 90 [v, m, mp]
  row : w.ownsRow B 126 2 v 0 []

def lkN (g : Nat) (w : World) : Nat := match w.cell? ⟨g, 0, none⟩ with
  | some (.slice _ n _) => n
  | _ => 0

set_option maxRecDepth 100000 in
set_option maxHeartbeats 400000 in
theorem holds_nil (B g : Nat) (m mp v : Value) (la la' : Option Addr) (lc lc' : Nat) (w : World) (h : Lk w B g m mp v) (hB : B ≤ w.heap.size) :
    Calls Tryd.prog 59 #[.pointer (some ⟨g, 0, none⟩), .slice la 0 lc, .slice la' 0 lc'] w fun e w' => e = .returned (.bool true) ∧ (∃ v', Lk w' B g m mp v' ∧ ∀ k, v'.ownBlock = some k → v.ownBlock = some k ∨ w.heap.size ≤ k) ∧ Keep w w' (fun k => k = g ∨ v.ownBlock = some k) := by
  obtain ⟨i126, hi126, hz126, hs126, hy126⟩ := info126
  have hlg := h.blk.lt
  have x0 := h.blk.cell (j := 0) rfl
  have hrow := h.row
  obtain ⟨ao, cap, rfl, hmx⟩ : ∃ ao cap, v = .slice ao 0 cap ∧ cap ≤ maxLen := by
    rcases hrow.2 with ⟨rfl, _⟩ | ⟨g1, c1, cur, rfl, _, _, _, h3, _⟩
    · exact ⟨none, 0, rfl, by unfold maxLen; omega⟩
    · exact ⟨_, _, rfl, h3⟩
  obtain ⟨w1, hw1, hb1, P1, hs1⟩ := one_new w [.slice la 0 lc, .slice la' 0 lc'] 126
  have X1 := h.blk.below hb1 hlg
  have hown := owns_below hrow hb1
  have hne := owns_ne hown X1 (by decide)
  have n1 : g ≠ w.heap.size := by omega
  unfold maxLen at hmx
  go_enter Tryd.func59, Tryd.ntmps59
  go_wp2_with (refine wpList_append_two (by rfl) (.tmp 14) (.tmp 18) 87 (by rfl) B 126 i126 _ 2 48 Tryd.underlying87 hi126 hz126 hs126 hy126 (by rfl) (by decide) (.slice ao 0 cap) 0 [] (by rfl) hown ⟨w.heap.size, 0, none⟩ 1 1 [.slice la 0 lc, .slice la' 0 lc'] (by rfl) (by rfl) (fun i u hu => by rw [Addr.add_lit, Nat.zero_add]; exact P1.cell hu) (by simp [Value.oneCell']) (by unfold maxLen; omega) (by omega) (by omega) (by decide) ?_; intro v3 u3 o3 g3 nb3; obtain ⟨gb, capb, rfl, hgb1, hgb2, hgb3, hgb4⟩ := owns_shape o3 (by omega); have X3 := X1.carry (g3.block g X1.lt (fun e => hne e.symm)); have l5 := X3.cell (j := 0) rfl; have l6 := X3.frozen 0)
  have hgv : ∀ k, (Value.slice (some ⟨gb, 0, none⟩) 1 capb).ownBlock = some k → (Value.slice ao 0 cap).ownBlock = some k ∨ w.heap.size ≤ k := fun k e => by
    rcases nb3 with h1 | ⟨b, h1, h2⟩
    · exact .inl (h1.symm.trans e)
    · have : some b = some k := h1.symm.trans e
      simp only [Option.some.injEq] at this
      exact .inr (by omega)
  have hK3 : Keep w u3 (fun k => k = g ∨ (Value.slice ao 0 cap).ownBlock = some k) := (Keep.of_below hb1 (Nat.le_refl _)).trans (Keep.grown g3) (fun k _ h => .inr h)
  simp only [Nat.zero_add, List.nil_append] at o3
  have hgg : gb ≠ g := fun e => owns_ne o3 X3 (by decide) (by simp [Value.ownBlock, e])
  obtain ⟨w4, hw4, X4, o4, K4⟩ : ∃ w4, u3.setCell ⟨g, 0, none⟩ (.slice (some ⟨gb, 0, none⟩) 1 capb) = w4 ∧ Blk w4 g 90 [.slice (some ⟨gb, 0, none⟩) 1 capb, m, mp] ∧ w4.ownsRow B 126 2 (.slice (some ⟨gb, 0, none⟩) 1 capb) 1 [.slice la 0 lc, .slice la' 0 lc'] ∧ Keep w w4 (fun k => k = g ∨ (Value.slice ao 0 cap).ownBlock = some k) :=
    ⟨_, rfl, X3.set 0 _, owns_block o3 (fun k e => Below.heap_setCell _ _ _ _ (by simp [Value.ownBlock] at e; subst e; exact hgg)), hK3.setCell (fun _ => .inl rfl) _ _⟩
  rw [hw4]
  clear hw4 hw1 o3 X3 l5 l6 x0 hK3 g3 nb3
  go_loopw [] (fun wr => ∃ n xs, n ≤ 1 ∧ (n = 1 → xs = [.slice la 0 lc, .slice la' 0 lc']) ∧ (n = 0 → xs = []) ∧ Blk wr g 90 [.slice (some ⟨gb, 0, none⟩) n capb, m, mp] ∧ wr.ownsRow B 126 2 (.slice (some ⟨gb, 0, none⟩) n capb) n xs ∧ Keep w wr (fun k => k = g ∨ (Value.slice ao 0 cap).ownBlock = some k)) (fun wr => lkN g wr)
  case atStart => exact ⟨1, _, Nat.le_refl _, fun _ => rfl, fun h => by omega, X4, o4, K4⟩
  case round =>
    obtain ⟨n, xs, hn, hx1, hx0, X, o, K⟩ := hrel
    have l0 := X.cell (j := 0) rfl
    have l1 := X.frozen 0
    rcases (by omega : n = 0 ∨ n = 1) with rfl | rfl
    · have hx0 := hx0 rfl
      subst hx0
      clear hx1
      go_wp2_with fail
      go_ret
      exact ⟨rfl, ⟨_, ⟨X, o⟩, hgv⟩, K⟩
    · have hx1 := hx1 rfl
      subst hx1
      clear hx0
      have lg := X.lt
      have d0 : wr.cell? ⟨gb, 0, none⟩ = some (.slice la 0 lc) := by
        obtain ⟨g2, h1, _, _, _, _, h2⟩ := owns_cell o (i := 0) rfl
        cases h1; exact h2
      have d1 : wr.cell? ⟨gb, 1, none⟩ = some (.slice la' 0 lc') := by
        obtain ⟨g2, h1, _, _, _, _, h2⟩ := owns_cell o (i := 1) rfl
        cases h1; exact h2
      have ng : g ≠ wr.heap.size := by omega
      have ng' : wr.heap.size ≠ g := by omega
      have hgb5 : gb < wr.heap.size := (owns_own o rfl).2
      obtain ⟨w5, hw5, X5, o5, K5, Y5⟩ : ∃ w5, (wr.setCell ⟨g, 0, none⟩ (.slice (some ⟨gb, 0, none⟩) 0 capb)).alloc (Obj.cells #[.slice la 0 lc, .slice la' 0 lc'] 126) = w5 ∧ Blk w5 g 90 [.slice (some ⟨gb, 0, none⟩) 0 capb, m, mp] ∧ w5.ownsRow B 126 2 (.slice (some ⟨gb, 0, none⟩) 0 capb) 0 [] ∧ Keep w w5 (fun k => k = g ∨ (Value.slice ao 0 cap).ownBlock = some k) ∧ Blk w5 wr.heap.size 126 [.slice la 0 lc, .slice la' 0 lc'] := by
        refine ⟨_, rfl, (X.set 0 _).alloc _, ?_, (K.setCell (fun _ => .inl rfl) _ _).alloc _, by have := Blk.new (wr.setCell ⟨g, 0, none⟩ (.slice (some ⟨gb, 0, none⟩) 0 capb)) 126 [.slice la 0 lc, .slice la' 0 lc']; rwa [show (wr.setCell ⟨g, 0, none⟩ (.slice (some ⟨gb, 0, none⟩) 0 capb)).heap.size = wr.heap.size from by simp [World.setCell]] at this⟩
        have o6 := owns_cut (xs := []) o (m := 0) rfl (by omega)
        refine owns_block o6 (fun k e => ?_)
        simp [Value.ownBlock] at e
        subst e
        exact (Below.heap_alloc _ _ _ (by simp [World.setCell]; omega)).trans (Below.heap_setCell _ _ _ _ hgg)
      have y0 := Y5.cell (j := 0) rfl
      have y1 := Y5.cell (j := 1) rfl
      go_wp2_with fail
      refine (opens_nil _ la la' lc lc' w5).mono ?_
      rintro e w6 ⟨rfl, hb6⟩
      go_wp2_with fail
      go_roundw
      case rel =>
        exact ⟨0, [], by omega, fun h => by omega, fun _ => rfl, X5.below hb6 X5.lt, owns_below o5 hb6, K5.low hb6 K5.size⟩
      case measure =>
        have e6 := (X5.below hb6 X5.lt).cell (j := 0) rfl
        unfold lkN
        rw [e6, l0]
        exact Nat.zero_lt_one
end Go.Proofs.YtbmijpjmdpdfkaaDoor

/- The walk of term's copied. No condition but that the Levels lie in memory and are few. -/
namespace Go.Proofs.YtbmijpjmdpdfkaaDoor
open Go.RowKit

theorem info58 : ∃ i, Tryd.prog.info? 58 = some i ∧ i.zero = some (.agg #[.int .i64 0, .int .i64 0, .slice none 0 0]) ∧ i.size = 3 ∧ i.bytes = 40 := by
  have h : (Tryd.prog.info? 58).map (fun i => (i.zero, i.size, i.bytes)) = some (some (.agg #[.int .i64 0, .int .i64 0, .slice none 0 0]), 3, 40) := by kernel_rfl
  obtain ⟨i, hi, he⟩ := Option.map_eq_some_iff.1 h
  simp only [Prod.mk.injEq] at he
  exact ⟨i, hi, he⟩
theorem info22 : ∃ i, Tryd.prog.info? 22 = some i ∧ i.zero = some (.slice none 0 0) ∧ i.size = 1 ∧ i.bytes = 24 := by
  have h : (Tryd.prog.info? 22).map (fun i => (i.zero, i.size, i.bytes)) = some (some (.slice none 0 0), 1, 24) := by kernel_rfl
  obtain ⟨i, hi, he⟩ := Option.map_eq_some_iff.1 h
  simp only [Prod.mk.injEq] at he
  exact ⟨i, hi, he⟩

theorem append_none (a : Option Addr) (c : Nat) (ty : TypeId) (w : World) : (Builtin.append_ #[22, 22] ty #[.slice none 0 0, .slice a 0 c]).run Tryd.prog w = .ok (.slice none 0 0) w := by
  cases a <;> simp [Builtin.append_, go_sem]

/-- append of an empty list to none. -/
theorem wpList_append_e {ops : Array Oper} {rest : List Oper} {o : Oper} {a : Act} {w : World} {Q : Exit → Act → World → Prop} (hg : o.guard = none) (x : Operand) (hop : o.op = Op.call { callee := Callee.builtin Builtin.append, args := #[.const (.slice none 0 0), x], argTypes := #[22, 22] })
    (ad : Option Addr) (c : Nat) (hx : a.eval x = .slice ad 0 c) (hK : wpList Tryd.prog ops Q rest (a.put o.dst (.slice none 0 0)) w) : wpList Tryd.prog ops Q (o :: rest) a w :=
  wpList_plain hg fun K hK' => by
    have h0 : a.eval (.const (.slice none 0 0)) = .slice none 0 0 := rfl
    unfold Oper.wp
    simp [execOp, hop, resolve, invoke, builtin, hx, h0, append_none, Result.andThen]
    exact hK' _ _ hK

set_option maxRecDepth 100000 in
set_option maxHeartbeats 400000 in
theorem copied_none (a : Option Addr) (c : Nat) (w : World) : Calls Tryd.prog 44 #[.slice a 0 c] w fun e w' => e = .returned (.slice none 0 0) ∧ Below w.heap.size w w' := by
  obtain ⟨w1, hw1, hb1, P1, hs1⟩ := one_new w [.slice none 0 0] 22
  have c0 := P1.cell (j := 0) rfl
  go_enter Tryd.func44, Tryd.ntmps44
  go_wp2_with (refine wpList_append_e (by rfl) (.tmp 8) (by rfl) a c (by rfl) ?_)
  go_loopw [4] (fun o wr => ∃ n, n ≤ 1 ∧ o = .slice (some ⟨w.heap.size, 0, none⟩) n 1 ∧ wr = w1) (fun o _ => sln o)
  case atStart => exact ⟨1, by omega, rfl, rfl⟩
  case round =>
    obtain ⟨n, hn, rfl, rfl⟩ := hrel
    rcases (by omega : n = 0 ∨ n = 1) with rfl | rfl
    · go_wp2_with fail
      go_ret
      exact ⟨rfl, hb1⟩
    · go_wp2_with fail
      obtain ⟨wo, hwo⟩ : ∃ wo, wo = wr := ⟨_, rfl⟩
      subst hwo
      go_loopw [4, 27] (fun o i wr => o = .slice (some ⟨w.heap.size, 0, none⟩) 0 1 ∧ i = .int .i64 0 ∧ wr = wo) (fun _ _ _ => 0)
      case atStart => exact ⟨rfl, rfl, rfl⟩
      case round =>
        obtain ⟨rfl, rfl, rfl⟩ := hrel
        go_wp2_with fail
        go_roundw
        case rel => exact ⟨0, by omega, by simp⟩
        case measure => simp [sln]
end Go.Proofs.YtbmijpjmdpdfkaaDoor

/- The walk of term's copied, of a list that is not empty. No condition but that the Levels lie in memory and are few. -/
namespace Go.Proofs.YtbmijpjmdpdfkaaDoor
open Go.RowKit

/-- A list that append made of another one. -/
theorem cp_made {w w1 : World} {B B' g n cap b off : Nat} {l : List Lv} {vs : List Value} (ho : w1.ownsRow B' 58 3 (.slice (some ⟨g, 0, none⟩) n cap) n vs) (hn : l.length = n) (hpos : 0 < n) (hBg : B ≤ g) (hvs : ∀ j u, vs[j]? = some u → w.cell? ⟨b, off + j, none⟩ = some u) (hin : InAll w (· < B) b off l) (hS : ∀ k, k < B → w1.heap[k]? = w.heap[k]?) :
    CpOk w1 B ⟨g, l, cap⟩ ∧ InAll w1 (· < B) g 0 l := by
  have hl := ho.1
  obtain ⟨g2, cap2, e2, _, _, h3, h4⟩ := owns_shape ho hpos
  simp only [Value.slice.injEq, Option.some.injEq, Addr.mk.injEq, and_true, true_and] at e2
  obtain ⟨rfl, rfl⟩ := e2
  refine ⟨⟨hBg, ?_, by show l.length ≤ cap; omega, by show cap ≤ 9223372036854775807; unfold maxLen at h4; omega, by show 0 < l.length; omega⟩, inall_copy hS hin fun j hj => ?_⟩
  · rcases ho.2 with ⟨h0, _⟩ | ⟨g', c', cur, he, _, hcur, hc1, _, hc2, _⟩
    · cases h0
    · simp only [Value.slice.injEq, Option.some.injEq, Addr.mk.injEq, true_and, and_true] at he
      obtain ⟨rfl, rfl⟩ := he
      exact ⟨cur, hcur, by show l.length * 3 ≤ _; rw [hc2]; omega⟩
  · obtain ⟨u, hu⟩ : ∃ u, vs[j]? = some u := ⟨_, List.getElem?_eq_getElem (by omega)⟩
    obtain ⟨g3, e3, _, _, _, _, hc⟩ := owns_cell ho hu
    simp only [Option.some.injEq, Addr.mk.injEq, and_true] at e3
    subst e3
    rw [hvs j u hu, Nat.zero_add]; exact hc
theorem owns_of_blk {w : World} {B g n : Nat} {e : TypeId} {l : List Value} (h : Blk w g e l) (hB : B ≤ g) (hl : l.length = n) (hn : n ≤ 1000) : w.ownsRow B e 1 (.slice (some ⟨g, 0, none⟩) n n) n l :=
  ⟨by omega, .inr ⟨g, n, l.toArray, rfl, hB, h, Nat.le_refl _, by unfold maxLen; omega, by simp [hl], by simp [List.take_of_length_le, hl]⟩⟩
theorem owns_cp {w : World} {B n : Nat} {v : Value} {xs : List Value} {y : Cp} (h : w.ownsRow B 22 1 v n xs) {B' : Nat} (hy : CpOk w B' y) : v.ownBlock ≠ some y.g := fun e => by
  rcases h.2 with ⟨rfl, _⟩ | ⟨g, cap, cur, rfl, _, hcur, _⟩
  · cases e
  · simp [Value.ownBlock] at e
    obtain ⟨cs, h1, _⟩ := hy.ty
    rw [← e, hcur] at h1
    simp at h1
theorem CpOk.frozen {w : World} {B : Nat} {y : Cp} (h : CpOk w B y) (j : Nat) : w.frozen? ⟨y.g, j, none⟩ = false := by
  obtain ⟨cs, h1, _⟩ := h.ty
  simp [World.frozen?, h1]
theorem cpMass_len {w : World} {B : Nat} (P : List Cp) (h : ∀ y ∈ P, CpOk w B y) : P.length ≤ cpMass P := by
  induction P with
  | nil => exact Nat.le_refl _
  | cons x r ih =>
    have := (h x (List.mem_cons_self ..)).pos
    have := ih (fun y hy => h y (List.mem_cons_of_mem _ hy))
    have := Lv.sizes_belows x.l
    simp only [List.length_cons, cpMass]; omega

set_option maxRecDepth 100000 in
set_option maxHeartbeats 4000000 in
theorem copied_some (ls : List Lv) (b off c : Nat) (w : World) (hin : InAll w (· < w.heap.size) b off ls) (hpos : 0 < ls.length) (hsz : Lv.sizes ls ≤ 262144) :
    Calls Tryd.prog 44 #[.slice (some ⟨b, off, none⟩) ls.length c] w fun e w' => ∃ oa oc, e = .returned (.slice oa ls.length oc) ∧ Node w' (fun k => w.heap.size ≤ k ∧ k < w'.heap.size ∧ ¬ XB w' k) 0 0 ls oa oc ∧ Below w.heap.size w w' := by
  obtain ⟨vs, hv1, hv2, hv3⟩ := inall_cells hin
  have hsb := Lv.sizes_belows ls
  obtain ⟨n, hn⟩ : ∃ n, ls.length = n := ⟨_, rfl⟩
  rw [hn] at hpos hv1 hsb
  obtain ⟨i58, hi58, hz58, hs58, hb58⟩ := info58
  obtain ⟨i22, hi22, hz22, hs22, hb22⟩ := info22
  have HN : Hid (ls.length = n ∧ Lv.sizes ls = n + Lv.belows ls) := ⟨hn, hsb⟩
  have hn2 : n ≤ 262144 := by omega
  rw [hn]
  clear hn hsb
  go_enter Tryd.func44, Tryd.ntmps44
  go_wp2_with (refine wpList_append_two (by rfl) (.const (.slice none 0 0)) (.tmp 8) 22 (by rfl) w.heap.size 58 i58 _ 3 40 Tryd.underlying22 hi58 hz58 hs58 hb58 (by rfl) (by decide) (.slice none 0 0) 0 [] (by rfl) ⟨rfl, .inl ⟨rfl, rfl⟩⟩ ⟨b, off, none⟩ n c vs (by rfl) hv1 (fun j u hj => by rw [Addr.add_lit]; exact hv2 j u hj) hv3 (by unfold maxLen; omega) (by omega) (Nat.le_refl _) hpos ?_; intro v1 w1 h1 hg1 hn1; simp only [Nat.zero_add, List.nil_append] at h1; obtain ⟨g, cap, rfl, hg11, hg12, hg13, hg14⟩ := owns_shape h1 hpos)
  have hgn : w.grownBy w1 none := hg1
  have hb1 : Below w.heap.size w w1 := ⟨hgn.os, hgn.tape, hgn.output, hgn.size, fun k hk => hgn.block k hk (fun e => by cases e)⟩
  obtain ⟨ok1, in1⟩ := cp_made (l := ls) h1 HN.out.1 hpos hg11 hv2 hin (fun k hk => hb1.block k hk)
  obtain ⟨w2, hw2, hb2, R2, hs2⟩ := one_new w1 [.slice (some ⟨g, 0, none⟩) n cap] 22
  have C1 := CI.start hb1 ok1 in1
  have hz1 := hb1.size
  have C2 := C1.carry (hb2.mono hz1) (fun y hy => by rw [List.mem_singleton.1 hy]; exact hb2.block _ hg12)
  have row2 : w2.ownsRow w.heap.size 22 1 (.slice (some ⟨w1.heap.size, 0, none⟩) 1 1) 1 (cpVals [⟨g, ls, cap⟩]) := by
    have := owns_of_blk (B := w.heap.size) (n := 1) R2 hz1 rfl (by omega)
    simpa [cpVals, Cp.val, HN.out.1] using this
  rw [hw2]
  clear hw2 h1 hg1 hn1 hgn ok1 in1 C1 hv1 hv2 hv3
  have hNs : Lv.sizes ls ≤ 262144 := hsz
  obtain ⟨N, hNN⟩ : ∃ N, Lv.sizes ls = N := ⟨_, rfl⟩
  rw [hNN] at C2 hNs
  have HNN : Hid (Lv.sizes ls = N) := hNN
  clear hNN hsz
  go_loopw [4] (fun v wr => ∃ A P, CI w wr A P none N ∧ wr.ownsRow w.heap.size 22 1 v P.length (cpVals P) ∧ (⟨g, ls, cap⟩ : Cp) ∈ A) (fun v wr => leastOf (fun m => ∃ A P, cpMass P = m ∧ CI w wr A P none N ∧ wr.ownsRow w.heap.size 22 1 v P.length (cpVals P) ∧ (⟨g, ls, cap⟩ : Cp) ∈ A))
  case atStart => exact ⟨_, _, C2, row2, List.mem_singleton.2 rfl⟩
  case round =>
    obtain ⟨A0, P0, CC0, rr0, mm0⟩ := hrel
    obtain ⟨A, P, hmass, CC, row, mA⟩ := leastOf_is (P := fun m => ∃ A P, cpMass P = m ∧ CI w wr A P none N ∧ wr.ownsRow w.heap.size 22 1 u4 P.length (cpVals P) ∧ (⟨g, ls, cap⟩ : Cp) ∈ A) ⟨_, A0, P0, rfl, CC0, rr0, mm0⟩
    have HM : Hid (cpMass P = leastOf (fun m => ∃ A P, cpMass P = m ∧ CI w wr A P none N ∧ wr.ownsRow w.heap.size 22 1 u4 P.length (cpVals P) ∧ (⟨g, ls, cap⟩ : Cp) ∈ A)) := hmass
    clear hmass CC0 rr0 mm0 C2 row2 R2
    cases P with
    | nil =>
      obtain ⟨ao, cp, rfl⟩ := owns_sl row
      simp only [List.length_nil] at row
      go_wp2_with fail
      go_ret
      have hS : ∀ y ∈ A, w.heap.size ≤ y.g ∧ y.g < wr.heap.size ∧ ¬ XB wr y.g := fun y hy => ⟨(CC.ok y hy).ge, (CC.ok y hy).lt, fun ⟨cs, t, fr, e1, e2⟩ => by
        obtain ⟨cs', e3, _⟩ := (CC.ok y hy).ty
        rw [e3] at e1
        simp only [Option.some.injEq, Obj.cells.injEq] at e1
        obtain ⟨_, rfl, _⟩ := e1
        exact absurd e2 (by decide)⟩
      have hw := CC.whole (S := fun k => w.heap.size ≤ k ∧ k < wr.heap.size ∧ ¬ XB wr k) hS (Lv.sizes ls) ⟨g, ls, cap⟩ (Nat.le_refl _) mA
      exact ⟨_, _, rfl, ⟨by omega, by omega, by omega, by omega, (CC.ok _ mA).le, (CC.ok _ mA).max, .inr ⟨g, 0, rfl, hS _ mA, hw⟩⟩, CC.low⟩
    | cons x r =>
      obtain ⟨q, cp, rfl, hq1, hq2, hq3, hq4⟩ := owns_shape row (by simp)
      have hxl := cpMass_len (x :: r) (fun y hy => CC.ok y (CC.pend y hy).1)
      have hmN := CC.mass
      simp only [curLeft] at hmN
      simp only [List.length_cons, cpVals] at row hxl hq3
      have at_ : wr.cell? ⟨q, r.length, none⟩ = some x.val := by
        obtain ⟨g2, e2, _, _, _, _, h2⟩ := owns_cell row (i := r.length) (c := x.val) (by rw [List.getElem?_append_right (by rw [cpVals_len]; exact Nat.le_refl _), cpVals_len, Nat.sub_self]; rfl)
        simp only [Option.some.injEq, Addr.mk.injEq, and_true] at e2
        rw [e2]; exact h2
      have row' := owns_cut (m := r.length) row (by rw [cpVals_len]; omega) (by omega)
      have CT := CC.take
      have hpx := (CC.ok x (CC.pend x (List.mem_cons_self ..)).1)
      have hmx : cpMass (x :: r) = Lv.sizes x.l + cpMass r := rfl
      have hsx := Lv.sizes_belows x.l
      have hpos' := hpx.pos
      obtain ⟨m, hmr⟩ : ∃ m, r.length = m := ⟨_, rfl⟩
      rw [hmr] at at_ row' hxl hq3
      have HR : Hid (r.length = m) := hmr
      rw [show (x :: r).length = m + 1 by rw [List.length_cons, hmr]] at HM ⊢
      have e1 : ((m : Int) + 1 - 1) = (m : Int) := by omega
      have e2 : decide ((0 : Int) < (m : Int) + 1) = true := decide_eq_true (by omega)
      unfold Cp.val at at_
      obtain ⟨xl, hxl2⟩ : ∃ xl, x.l.length = xl := ⟨_, rfl⟩
      rw [hxl2] at at_ hsx hpos'
      have HX : Hid (x.l.length = xl ∧ cpMass (x :: r) = Lv.sizes x.l + cpMass r ∧ Lv.sizes x.l = xl + Lv.belows x.l) := ⟨hxl2, hmx, hsx⟩
      have hxl3 : xl ≤ 262144 := by omega
      have hmN3 : m + 1 ≤ 262144 := by omega
      clear hxl2 hmx hsx hmr row CC hmN hxl
      go_wp2_with fail
      obtain ⟨wo, hwo⟩ : ∃ wo, wo = wr := ⟨_, rfl⟩
      subst hwo
      go_loopw [4, 27] (fun v i wr => ∃ (j : Nat) (A P : List Cp), i = .int .i64 (j : Int) ∧ j ≤ xl ∧ CI w wr A P (some (x, j)) N ∧ wr.ownsRow w.heap.size 22 1 v P.length (cpVals P) ∧ (⟨g, ls, cap⟩ : Cp) ∈ A ∧ cpMass P + Lv.belows (x.l.drop j) ≤ cpMass r + Lv.belows x.l) (fun _ i _ => xl - (intOf i).toNat)
      case atStart => exact ⟨0, A, r, rfl, by omega, CT, by rw [HR.out]; exact row', mA, by simp⟩
      case round =>
        obtain ⟨j, A2, P2, rfl, hj, C3, row3, mA2, hms⟩ := hrel
        obtain ⟨x1, x2, x3, x4⟩ := C3.cur x j rfl
        have okx := C3.ok x x1
        have hmC := C3.mass
        simp only [curLeft] at hmC
        have hP2 := cpMass_len P2 (fun y hy => C3.ok y (C3.pend y hy).1)
        by_cases hjl : j < xl
        · have hdj : decide ((j : Int) < (xl : Int)) = true := decide_eq_true (by omega)
          obtain ⟨⟨k', n', args'⟩, hL⟩ : ∃ L, x.l[j]? = some L := ⟨_, List.getElem?_eq_getElem (by rw [HX.out.1]; exact hjl)⟩
          obtain ⟨a', c', y0, y1, y2, hN'⟩ := (x4 j _ hL).2 (Nat.le_refl _)
          have fz := okx.frozen (j * 3 + 2)
          have hbd := Lv.belows_drop hL
          cases args' with
          | nil =>
            have y2' : wr.cell? ⟨x.g, j * 3 + 2, none⟩ = some (.slice a' 0 c') := y2
            have C4 := C3.empty hL
            have z2 := World.cell?_setCell_same wr ⟨x.g, j * 3 + 2, none⟩ (.slice none 0 0) y2'
            go_wp2_with (refine wpList_append_e (by rfl) (.tmp 36) (by rfl) a' c' (by rfl) ?_)
            go_roundw
            case rel => exact ⟨j + 1, A2, P2, by simp, by omega, C4, owns_block row3 (fun k e => Below.heap_setCell _ _ _ _ (fun h => owns_cp row3 okx (by rw [e]; exact congrArg some h))), mA2, by simp only [Lv.sizes] at hbd; omega⟩
            case measure => simp [intOf]; omega
          | cons a0 ar =>
            rcases hN'.all with h0 | ⟨b', off', rfl, hb', hin'⟩
            · cases h0
            · obtain ⟨vs2, hv1, hv2, hv3⟩ := inall_cells hin'
              have hsb := Lv.sizes_belows (a0 :: ar)
              obtain ⟨na, hna⟩ : ∃ na, (a0 :: ar).length = na := ⟨_, rfl⟩
              rw [hna] at y2 hv1 hsb
              have hna0 : 0 < na := by rw [← hna]; simp
              have HA : Hid ((a0 :: ar).length = na) := hna
              have hna2 : na ≤ 262144 := by omega
              have hP3 : P2.length ≤ 262144 := by omega
              have HB : Hid (cpMass P2 + Lv.belows (x.l.drop j) ≤ cpMass r + Lv.belows x.l ∧ Lv.belows (x.l.drop j) = Lv.sizes (a0 :: ar) + Lv.belows (x.l.drop (j + 1))) := ⟨hms, hbd⟩
              clear hna hsb hbd hms hmC hP2
              have hpf : ∀ (w5 : World) (g5 cap5 : Nat), w5.ownsRow wr.heap.size 58 3 (.slice (some ⟨g5, 0, none⟩) na cap5) na vs2 → wr.grownBy w5 none → wr.heap.size ≤ g5 →
                  CI w (w5.setCell ⟨x.g, j * 3 + 2, none⟩ (.slice (some ⟨g5, 0, none⟩) na cap5)) (⟨g5, a0 :: ar, cap5⟩ :: A2) (⟨g5, a0 :: ar, cap5⟩ :: P2) (some (x, j + 1)) N ∧ ((w5.setCell ⟨x.g, j * 3 + 2, none⟩ (.slice (some ⟨g5, 0, none⟩) na cap5)).alloc (.cells #[.slice (some ⟨g5, 0, none⟩) na cap5] 22)).ownsRow w.heap.size 22 1 u4 P2.length (cpVals P2) ∧
                  w.heap.size ≤ ((w5.setCell ⟨x.g, j * 3 + 2, none⟩ (.slice (some ⟨g5, 0, none⟩) na cap5)).alloc (.cells #[.slice (some ⟨g5, 0, none⟩) na cap5] 22)).heap.size ∧ Blk ((w5.setCell ⟨x.g, j * 3 + 2, none⟩ (.slice (some ⟨g5, 0, none⟩) na cap5)).alloc (.cells #[.slice (some ⟨g5, 0, none⟩) na cap5] 22)) w5.heap.size 22 [.slice (some ⟨g5, 0, none⟩) na cap5] := by
                intro w5 g5 cap5 h5 hgn5 hg51
                have hb5 : Below wr.heap.size wr w5 := ⟨hgn5.os, hgn5.tape, hgn5.output, hgn5.size, fun k hk => hgn5.block k hk (fun e => by cases e)⟩
                have hz := C3.low.size
                obtain ⟨ok5, in5⟩ := cp_made (B := w.heap.size) (l := a0 :: ar) h5 HA.out hna0 (by omega) hv2 hin' (fun k hk => hb5.block k (by omega))
                have C6 := C3.push (y := ⟨g5, a0 :: ar, cap5⟩) hL hb5 hg51 rfl ok5 in5
                have hval : (Cp.mk g5 (a0 :: ar) cap5).val = .slice (some ⟨g5, 0, none⟩) na cap5 := by unfold Cp.val; rw [HA.out]
                rw [hval] at C6
                have row5 := owns_below row3 hb5
                have okx5 := okx.carry (hb5.block x.g okx.lt)
                have row6 : (w5.setCell ⟨x.g, j * 3 + 2, none⟩ (.slice (some ⟨g5, 0, none⟩) na cap5)).ownsRow w.heap.size 22 1 u4 P2.length (cpVals P2) := owns_block row5 (fun k e => Below.heap_setCell _ _ _ _ (fun h => owns_cp row5 okx5 (by rw [e]; exact congrArg some h)))
                have hb7 := below_alloc (w5.setCell ⟨x.g, j * 3 + 2, none⟩ (.slice (some ⟨g5, 0, none⟩) na cap5)) (.cells #[.slice (some ⟨g5, 0, none⟩) na cap5] 22)
                refine ⟨C6, owns_below row6 hb7, Nat.le_trans C6.low.size hb7.size, ?_⟩
                have := Blk.new (w5.setCell ⟨x.g, j * 3 + 2, none⟩ (.slice (some ⟨g5, 0, none⟩) na cap5)) 22 [.slice (some ⟨g5, 0, none⟩) na cap5]
                rwa [show (w5.setCell ⟨x.g, j * 3 + 2, none⟩ (.slice (some ⟨g5, 0, none⟩) na cap5)).heap.size = w5.heap.size by simp [World.setCell]] at this
              go_wp2_with (first
                | (refine wpList_append_two (by rfl) (.const (.slice none 0 0)) (.tmp 36) 22 (by rfl) wr.heap.size 58 i58 _ 3 40 Tryd.underlying22 hi58 hz58 hs58 hb58 (by rfl) (by decide) (.slice none 0 0) 0 [] (by rfl) ⟨rfl, .inl ⟨rfl, rfl⟩⟩ ⟨b', off', none⟩ na c' vs2 (by rfl) hv1 (fun j u hj => by rw [Addr.add_lit]; exact hv2 j u hj) hv3 (by unfold maxLen; omega) (by omega) (Nat.le_refl _) hna0 ?_; intro v5 w5 h5 hg5 hn5; simp only [Nat.zero_add, List.nil_append] at h5; obtain ⟨g5, cap5, rfl, hg51, hg52, hg53, hg54⟩ := owns_shape h5 hna0; have hgn5 : wr.grownBy w5 none := hg5; have z2 := (World.cell?_of_block (hgn5.block x.g okx.lt (fun e => by cases e))).trans y2; have zf := (okx.carry (hgn5.block x.g okx.lt (fun e => by cases e))).frozen (j * 3 + 2); obtain ⟨C6, row7, hz7, X7⟩ := hpf w5 g5 cap5 h5 hgn5 hg51)
                | (refine wpList_append_two (by rfl) (.tmp 47) (.tmp 53) 107 (by rfl) w.heap.size 22 i22 _ 1 24 Tryd.underlying107 hi22 hz22 hs22 hb22 (by rfl) (by decide) u4 P2.length (cpVals P2) (by rfl) row7 ⟨w5.heap.size, 0, none⟩ 1 1 [.slice (some ⟨g5, 0, none⟩) na cap5] (by rfl) (by rfl) (fun i u hu => by rw [Addr.add_lit, Nat.zero_add]; exact X7.cell hu) (by simp [Value.oneCell']) (by unfold maxLen; omega) (by omega) hz7 (by decide) ?_; intro v8 w8 h8 hg8 hn8))
              have hb7 := below_alloc (w5.setCell ⟨x.g, j * 3 + 2, none⟩ (.slice (some ⟨g5, 0, none⟩) na cap5)) (.cells #[.slice (some ⟨g5, 0, none⟩) na cap5] 22)
              have C7 := C6.carry (hb7.mono C6.low.size) (fun y hy => hb7.block _ (C6.ok y hy).lt)
              have C8 := C7.carry (wr' := w8) ⟨hg8.os, hg8.tape, hg8.output, hg8.size, fun k hk => hg8.block k (by omega) (fun e => by have := (owns_own row7 e.symm).1; omega)⟩ (fun y hy => hg8.block _ (C7.ok y hy).lt (fun e => owns_cp row7 (C7.ok y hy) e.symm))
              refine ⟨⟨j + 1, _, _, by simp, by omega, C8, ?_, List.mem_cons_of_mem _ mA2, ?_⟩, by simp [intOf]; omega⟩
              · simp only [cpVals, List.length_cons, Cp.val, HA.out]; exact h8
              · have := HB.out
                simp only [cpMass]
                omega
        · have hdj : decide ((j : Int) < (xl : Int)) = false := decide_eq_false (by omega)
          have hje : j = x.l.length := by rw [HX.out.1]; omega
          have C4 : CI w wr A2 P2 none N := by rw [hje] at C3; exact C3.finish
          have hmf : cpMass P2 < cpMass (x :: r) := by
            rw [hje, List.drop_length] at hms
            have := HX.out
            simp only [Lv.belows] at hms
            omega
          go_wp2_with fail
          go_roundw
          case rel => exact ⟨A2, P2, C4, row3, mA2⟩
          case measure =>
            rw [← HM.out]
            exact Nat.lt_of_le_of_lt (leastOf_le ⟨A2, P2, rfl, C4, row3, mA2⟩) hmf
end Go.Proofs.YtbmijpjmdpdfkaaDoor
