/- Levels that are being copied, list by list: which lists are copied whole, which still lean on the old ones. Plain facts of worlds, of no program. -/
import Derived.Test.YtbmijpjmdpdfkaaDoorTa4
import Derived.Test.YtbmijpjmdpdfkaaDoorOfB
namespace Go.Proofs.YtbmijpjmdpdfkaaDoor
open Go.RowKit

/-- A list's cells, one by one. -/
theorem inall_cells {w : World} {S : Nat → Prop} {b : Nat} {l : List Lv} : ∀ {off : Nat}, InAll w S b off l → ∃ vs : List Value, vs.length = l.length * 3 ∧ (∀ j u, vs[j]? = some u → w.cell? ⟨b, off + j, none⟩ = some u) ∧ ∀ u ∈ vs, u.oneCell' = true := by
  induction l with
  | nil => intro off _; exact ⟨[], rfl, fun j u h => by simp at h, fun u h => by cases h⟩
  | cons x r ih =>
    intro off h
    rw [inAll_cons] at h
    obtain ⟨⟨c0, c1, c2, e0, e1, e2, hx⟩, hr⟩ := h
    obtain ⟨vs, h1, h2, h3⟩ := ih hr
    obtain ⟨k, n, args⟩ := x
    obtain ⟨a, cap, e, _⟩ := hx.node
    simp only [Value.agg.injEq, Array.mk.injEq, List.cons.injEq, and_true] at e
    obtain ⟨rfl, rfl, rfl⟩ := e
    refine ⟨.int .i64 k :: .int .i64 n :: .slice a args.length cap :: vs, by simp [h1]; omega, fun j u hj => ?_, fun u hu => ?_⟩
    · match j, hj with
      | 0, hj => simp at hj; subst hj; exact e0
      | 1, hj => simp at hj; subst hj; exact e1
      | 2, hj => simp at hj; subst hj; exact e2
      | j + 3, hj =>
        have := h2 j u (by simpa using hj)
        rw [show off + (j + 3) = off + 3 + j by omega]; exact this
    · simp only [List.mem_cons] at hu
      rcases hu with rfl | rfl | rfl | hu
      · rfl
      · rfl
      · rfl
      · exact h3 u hu

/-- The same cells elsewhere are the same list. -/
theorem inall_copy {w w' : World} {S : Nat → Prop} {b g : Nat} {l : List Lv} (hS : ∀ k, S k → w'.heap[k]? = w.heap[k]?) : ∀ {off o : Nat}, InAll w S b off l → (∀ j, j < l.length * 3 → w'.cell? ⟨g, o + j, none⟩ = w.cell? ⟨b, off + j, none⟩) → InAll w' S g o l := by
  induction l with
  | nil => intro off o _ _; rw [InAll]; trivial
  | cons x r ih =>
    intro off o h hc
    rw [inAll_cons] at h ⊢
    obtain ⟨⟨c0, c1, c2, e0, e1, e2, hx⟩, hr⟩ := h
    refine ⟨⟨c0, c1, c2, (hc 0 (by simp)).trans e0, (hc 1 (by simp; omega)).trans e1, (hc 2 (by simp; omega)).trans e2, In.carry hS (fun _ h => h) _ _ hx⟩, ih hr fun j hj => ?_⟩
    have := hc (j + 3) (by simp; omega)
    rw [show o + 3 + j = o + (j + 3) by omega, show off + 3 + j = off + (j + 3) by omega]; exact this

/-- A list that was made: its block, what it says, its capacity. -/
structure Cp where
  g : Nat
  l : List Lv
  c : Nat
def Cp.val (x : Cp) : Value := .slice (some ⟨x.g, 0, none⟩) x.l.length x.c
def cpVals : List Cp → List Value
  | [] => []
  | x :: r => cpVals r ++ [x.val]
theorem cpVals_len (P : List Cp) : (cpVals P).length = P.length := by
  induction P with
  | nil => rfl
  | cons x r ih => simp [cpVals, ih]
def cpMass : List Cp → Nat
  | [] => 0
  | x :: r => Lv.sizes x.l + cpMass r

/-- A level of a list that is copied whole. -/
def ElNew (w : World) (A : List Cp) (g j : Nat) : Lv → Prop
  | .mk k n args => w.cell? ⟨g, j * 3, none⟩ = some (.int .i64 k) ∧ w.cell? ⟨g, j * 3 + 1, none⟩ = some (.int .i64 n) ∧ (-9223372036854775808 ≤ k ∧ k ≤ 9223372036854775807) ∧ (-9223372036854775808 ≤ n ∧ n ≤ 9223372036854775807) ∧
    ((args = [] ∧ w.cell? ⟨g, j * 3 + 2, none⟩ = some (.slice none 0 0)) ∨ ∃ y ∈ A, y.l = args ∧ w.cell? ⟨g, j * 3 + 2, none⟩ = some y.val)
/-- A level that still leans on the old list. -/
def ElOld (w : World) (B g j : Nat) : Lv → Prop
  | .mk k n args => ∃ a c, w.cell? ⟨g, j * 3, none⟩ = some (.int .i64 k) ∧ w.cell? ⟨g, j * 3 + 1, none⟩ = some (.int .i64 n) ∧ w.cell? ⟨g, j * 3 + 2, none⟩ = some (.slice a args.length c) ∧ Node w (· < B) k n args a c

/-- A list of which the first i are copied whole. -/
def CpAt (w : World) (B : Nat) (A : List Cp) (x : Cp) (i : Nat) : Prop := ∀ j L, x.l[j]? = some L → (j < i → ElNew w A x.g j L) ∧ (i ≤ j → ElOld w B x.g j L)

structure CpOk (w : World) (B : Nat) (x : Cp) : Prop where
  ge : B ≤ x.g
  ty : ∃ cs, w.heap[x.g]? = some (.cells cs 58 (0, 0)) ∧ x.l.length * 3 ≤ cs.size
  le : x.l.length ≤ x.c
  max : x.c ≤ 9223372036854775807
  pos : 0 < x.l.length

theorem CpOk.lt {w : World} {B : Nat} {x : Cp} (h : CpOk w B x) : x.g < w.heap.size := by obtain ⟨cs, h, _⟩ := h.ty; exact (Array.getElem?_eq_some_iff.1 h).1
theorem ElNew.carry {w w' : World} {A A' : List Cp} {g j : Nat} (hb : w'.heap[g]? = w.heap[g]?) (hA : ∀ y ∈ A, y ∈ A') : ∀ {L : Lv}, ElNew w A g j L → ElNew w' A' g j L
  | .mk _ _ _, ⟨h1, h2, h3, h4, h5⟩ => ⟨(World.cell?_of_block hb).trans h1, (World.cell?_of_block hb).trans h2, h3, h4, h5.imp (fun ⟨e, h⟩ => ⟨e, (World.cell?_of_block hb).trans h⟩) (fun ⟨y, hy, e, h⟩ => ⟨y, hA y hy, e, (World.cell?_of_block hb).trans h⟩)⟩
theorem ElOld.carry {w w' : World} {B g j : Nat} (hb : w'.heap[g]? = w.heap[g]?) (hB : ∀ k, k < B → w'.heap[k]? = w.heap[k]?) : ∀ {L : Lv}, ElOld w B g j L → ElOld w' B g j L
  | .mk _ _ _, ⟨a, c, h1, h2, h3, h4⟩ => ⟨a, c, (World.cell?_of_block hb).trans h1, (World.cell?_of_block hb).trans h2, (World.cell?_of_block hb).trans h3, h4.carry hB (fun _ h => h)⟩
theorem CpAt.carry {w w' : World} {B : Nat} {A A' : List Cp} {x : Cp} {i : Nat} (h : CpAt w B A x i) (hb : w'.heap[x.g]? = w.heap[x.g]?) (hB : ∀ k, k < B → w'.heap[k]? = w.heap[k]?) (hA : ∀ y ∈ A, y ∈ A') : CpAt w' B A' x i :=
  fun j L hj => ⟨fun hi => ((h j L hj).1 hi).carry hb hA, fun hi => ((h j L hj).2 hi).carry hb hB⟩
theorem CpOk.carry {w w' : World} {B : Nat} {x : Cp} (h : CpOk w B x) (hb : w'.heap[x.g]? = w.heap[x.g]?) : CpOk w' B x := by
  obtain ⟨cs, h1, h2⟩ := h.ty
  exact ⟨h.ge, ⟨cs, hb.trans h1, h2⟩, h.le, h.max, h.pos⟩

/-- What of the list under way is still to be copied. -/
def curLeft : Option (Cp × Nat) → Nat
  | some (y, i) => Lv.belows (y.l.drop i)
  | none => 0
/-- All lists that were made; those of P still lean on the old ones; x is under way, i of it are copied whole. -/
structure CI (w wr : World) (A P : List Cp) (x : Option (Cp × Nat)) (N : Nat) : Prop where
  low : Below w.heap.size w wr
  ok : ∀ y ∈ A, CpOk wr w.heap.size y
  inj : ∀ y ∈ A, ∀ z ∈ A, y.g = z.g → y = z
  pend : ∀ y ∈ P, y ∈ A ∧ CpAt wr w.heap.size A y 0
  nodup : P.Nodup
  cur : ∀ y i, x = some (y, i) → y ∈ A ∧ y ∉ P ∧ i ≤ y.l.length ∧ CpAt wr w.heap.size A y i
  done : ∀ y ∈ A, y ∉ P → (∀ z i, x = some (z, i) → y ≠ z) → CpAt wr w.heap.size A y y.l.length
  mass : cpMass P + curLeft x ≤ N

/-- All is copied: the list as it was, in new memory alone. -/
theorem CI.whole {w wr : World} {A : List Cp} {N : Nat} (h : CI w wr A [] none N) {S : Nat → Prop} (hS : ∀ y ∈ A, S y.g) : ∀ (m : Nat) (x : Cp), Lv.sizes x.l ≤ m → x ∈ A → InAll wr S x.g 0 x.l := by
  intro m
  induction m with
  | zero =>
    intro x hm hx
    have := (h.ok x hx).pos
    have := Lv.sizes_belows x.l
    omega
  | succ m ih =>
    intro x hm hx
    have hd := h.done x hx (by simp) (fun z i e => by cases e)
    refine InAll.of_get fun i L hi => ?_
    obtain ⟨k, n, args⟩ := L
    have hlt := (List.getElem?_eq_some_iff.1 hi).1
    obtain ⟨h1, h2, h3, h4, h5⟩ := (hd i _ hi).1 hlt
    have hsz : Lv.sizes args + 1 ≤ Lv.sizes x.l := by
      have := Lv.size_mem (List.mem_of_getElem? hi)
      rw [Lv.size_mk] at this
      exact this
    simp only [Nat.zero_add]
    rcases h5 with ⟨rfl, h5⟩ | ⟨y, hy, rfl, h5⟩
    · exact ⟨_, _, _, h1, h2, h5, in_mk.2 ⟨none, 0, rfl, h3, h4, Nat.le_refl _, by unfold maxLen; omega, .inl rfl⟩⟩
    · exact ⟨_, _, _, h1, h2, h5, in_mk.2 ⟨_, y.c, rfl, h3, h4, (h.ok y hy).le, by unfold maxLen; exact (h.ok y hy).max, .inr ⟨y.g, 0, rfl, hS y hy, ih y (by omega) hy⟩⟩⟩
end Go.Proofs.YtbmijpjmdpdfkaaDoor
