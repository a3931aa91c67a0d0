/- The steps of a copy of Levels. Plain facts of worlds, of no program. -/
import Derived.Test.YtbmijpjmdpdfkaaDoorCg1
namespace Go.Proofs.YtbmijpjmdpdfkaaDoor
open Go.RowKit

theorem elold_of {w : World} {B g : Nat} {l : List Lv} (h : InAll w (· < B) g 0 l) (A : List Cp) (c : Nat) : CpAt w B A ⟨g, l, c⟩ 0 := fun j L hj => ⟨fun h => by omega, fun _ => by
  obtain ⟨c0, c1, c2, e0, e1, e2, hin⟩ := h.get j L hj
  obtain ⟨k, n, args⟩ := L
  obtain ⟨a, cap, e, hN⟩ := hin.node
  simp only [Value.agg.injEq, Array.mk.injEq, List.cons.injEq, and_true] at e
  obtain ⟨rfl, rfl, rfl⟩ := e
  simp only [Nat.zero_add] at e0 e1 e2
  exact ⟨a, cap, e0, e1, e2, hN⟩⟩

theorem CI.carry {w wr wr' : World} {A P : List Cp} {x : Option (Cp × Nat)} {N : Nat} (h : CI w wr A P x N) (hl : Below w.heap.size wr wr') (hA : ∀ y ∈ A, wr'.heap[y.g]? = wr.heap[y.g]?) : CI w wr' A P x N :=
  ⟨h.low.trans hl, fun y hy => (h.ok y hy).carry (hA y hy), h.inj, fun y hy => ⟨(h.pend y hy).1, (h.pend y hy).2.carry (hA y (h.pend y hy).1) (fun k hk => hl.block k hk) (fun _ h => h)⟩, h.nodup,
    fun y i e => ⟨(h.cur y i e).1, (h.cur y i e).2.1, (h.cur y i e).2.2.1, (h.cur y i e).2.2.2.carry (hA y (h.cur y i e).1) (fun k hk => hl.block k hk) (fun _ h => h)⟩,
    fun y hy h1 h2 => (h.done y hy h1 h2).carry (hA y hy) (fun k hk => hl.block k hk) (fun _ h => h), h.mass⟩
theorem CI.drewN {w wr : World} {A P : List Cp} {x : Option (Cp × Nat)} {N : Nat} (h : CI w wr A P x N) (q : Nat) : CI w (wr.drewN q) A P x N := h.carry ⟨rfl, rfl, rfl, Nat.le_refl _, fun _ _ => rfl⟩ (fun _ _ => rfl)

theorem CI.start {w w1 : World} {g c : Nat} {l : List Lv} (hl : Below w.heap.size w w1) (hok : CpOk w1 w.heap.size ⟨g, l, c⟩) (hin : InAll w1 (· < w.heap.size) g 0 l) : CI w w1 [⟨g, l, c⟩] [⟨g, l, c⟩] none (Lv.sizes l) :=
  ⟨hl, fun y hy => by rw [List.mem_singleton.1 hy]; exact hok, fun y hy z hz _ => by rw [List.mem_singleton.1 hy, List.mem_singleton.1 hz], fun y hy => ⟨hy, by rw [List.mem_singleton.1 hy]; exact elold_of hin _ _⟩, by simp,
    (fun y i e => by cases e), (fun y hy hn _ => (hn hy).elim), by simp [cpMass, curLeft]⟩

theorem CI.take {w wr : World} {A P : List Cp} {x : Cp} {N : Nat} (h : CI w wr A (x :: P) none N) : CI w wr A P (some (x, 0)) N := by
  have hn := List.nodup_cons.1 h.nodup
  refine ⟨h.low, h.ok, h.inj, fun y hy => h.pend y (List.mem_cons_of_mem _ hy), hn.2, fun y i e => ?_, fun y hy h1 h2 => ?_, ?_⟩
  · simp only [Option.some.injEq, Prod.mk.injEq] at e
    obtain ⟨rfl, rfl⟩ := e
    exact ⟨(h.pend x (List.mem_cons_self ..)).1, hn.1, Nat.zero_le _, (h.pend x (List.mem_cons_self ..)).2⟩
  · exact h.done y hy (fun hm => by
      rcases List.mem_cons.1 hm with e | hm
      · exact h2 x 0 rfl e
      · exact h1 hm) (fun z i e => by cases e)
  · have := h.mass
    have := Lv.sizes_belows x.l
    simp only [cpMass, curLeft, List.drop_zero] at *
    omega

theorem CI.finish {w wr : World} {A P : List Cp} {x : Cp} {N : Nat} (h : CI w wr A P (some (x, x.l.length)) N) : CI w wr A P none N := by
  obtain ⟨c1, c2, c3, c4⟩ := h.cur x _ rfl
  refine ⟨h.low, h.ok, h.inj, h.pend, h.nodup, (fun y i e => by cases e), fun y hy h1 _ => ?_, by have := h.mass; simp only [curLeft] at this ⊢; omega⟩
  by_cases e : y = x
  · rw [e]; exact c4
  · exact h.done y hy h1 (fun z i e' => by simp only [Option.some.injEq, Prod.mk.injEq] at e'; rw [← e'.1]; exact e)

/-- One of the cells of x is written. -/
theorem cp_set {w wr : World} {A A' P : List Cp} {x : Cp} {i N : Nat} {k n : Int} {args : List Lv} {v : Value} (h : CI w wr A P (some (x, i)) N) (hi : x.l[i]? = some (.mk k n args)) (hA : ∀ y ∈ A, y ∈ A')
    (hv : (args = [] ∧ v = .slice none 0 0) ∨ ∃ y ∈ A', y.l = args ∧ v = y.val) : CpAt (wr.setCell ⟨x.g, i * 3 + 2, none⟩ v) w.heap.size A' x (i + 1) := by
  obtain ⟨c1, c2, c3, c4⟩ := h.cur x _ rfl
  have hok := h.ok x c1
  have hge := hok.ge
  have hB : ∀ k, k < w.heap.size → (wr.setCell ⟨x.g, i * 3 + 2, none⟩ v).heap[k]? = wr.heap[k]? := fun k hk => Below.heap_setCell _ _ _ _ (fun e => by have e' : k = x.g := e; omega)
  have hother : ∀ c, c ≠ i * 3 + 2 → (wr.setCell ⟨x.g, i * 3 + 2, none⟩ v).cell? ⟨x.g, c, none⟩ = wr.cell? ⟨x.g, c, none⟩ := fun c hc => World.cell?_setCell_other _ _ _ _ (fun e => hc (by injection e with _ h2 _; exact h2.symm))
  have hlt := (List.getElem?_eq_some_iff.1 hi).1
  intro j L hj
  by_cases hji : j = i
  · subst hji
    rw [hi] at hj
    simp only [Option.some.injEq] at hj
    subst hj
    refine ⟨fun _ => ?_, fun h => by omega⟩
    obtain ⟨a, c, e0, e1, e2, hN⟩ := (c4 j _ hi).2 (Nat.le_refl _)
    refine ⟨(hother _ (by omega)).trans e0, (hother _ (by omega)).trans e1, ⟨hN.k0, hN.k1⟩, ⟨hN.n0, hN.n1⟩, ?_⟩
    have hs := World.cell?_setCell_same wr ⟨x.g, j * 3 + 2, none⟩ v e2
    rcases hv with ⟨e, rfl⟩ | ⟨y, hy, e, rfl⟩
    · exact .inl ⟨e, hs⟩
    · exact .inr ⟨y, hy, e, hs⟩
  · refine ⟨fun hl => ?_, fun hl => ?_⟩
    · have := (c4 j L hj).1 (by omega)
      obtain ⟨k', n', args'⟩ := L
      obtain ⟨e0, e1, e2, e3, e4⟩ := this
      exact ⟨(hother _ (by omega)).trans e0, (hother _ (by omega)).trans e1, e2, e3, e4.imp (fun ⟨e, h⟩ => ⟨e, (hother _ (by omega)).trans h⟩) (fun ⟨y, hy, e, h⟩ => ⟨y, hA y hy, e, (hother _ (by omega)).trans h⟩)⟩
    · have := (c4 j L hj).2 (by omega)
      obtain ⟨k', n', args'⟩ := L
      obtain ⟨a, c, e0, e1, e2, e3⟩ := this
      exact ⟨a, c, (hother _ (by omega)).trans e0, (hother _ (by omega)).trans e1, (hother _ (by omega)).trans e2, e3.carry hB (fun _ h => h)⟩

theorem CpOk.set {w : World} {B : Nat} {y : Cp} (h : CpOk w B y) (g c : Nat) (v : Value) : CpOk (w.setCell ⟨g, c, none⟩ v) B y := by
  obtain ⟨cs, h1, h2⟩ := h.ty
  refine ⟨h.ge, ?_, h.le, h.max, h.pos⟩
  by_cases e : g = y.g
  · exact ⟨cs.setIfInBounds c v, by rw [e]; simp [World.setCell, Array.getElem?_modify, h1], by simpa using h2⟩
  · exact ⟨cs, (Below.heap_setCell _ _ _ _ (fun e' => e e'.symm)).trans h1, h2⟩

theorem CI.empty {w wr : World} {A P : List Cp} {x : Cp} {i N : Nat} {k n : Int} (h : CI w wr A P (some (x, i)) N) (hi : x.l[i]? = some (.mk k n [])) : CI w (wr.setCell ⟨x.g, i * 3 + 2, none⟩ (.slice none 0 0)) A P (some (x, i + 1)) N := by
  obtain ⟨c1, c2, c3, c4⟩ := h.cur x _ rfl
  have hge := (h.ok x c1).ge
  have hlt := (List.getElem?_eq_some_iff.1 hi).1
  have hB : ∀ k, k < w.heap.size → (wr.setCell ⟨x.g, i * 3 + 2, none⟩ (.slice none 0 0)).heap[k]? = wr.heap[k]? := fun k hk => Below.heap_setCell _ _ _ _ (fun e => by have e' : k = x.g := e; omega)
  have hO : ∀ y ∈ A, y ≠ x → (wr.setCell ⟨x.g, i * 3 + 2, none⟩ (.slice none 0 0)).heap[y.g]? = wr.heap[y.g]? := fun y hy hne => Below.heap_setCell _ _ _ _ (fun e => hne (h.inj y hy x c1 e))
  refine ⟨h.low.setCell (p := ⟨x.g, i * 3 + 2, none⟩) hge _, fun y hy => (h.ok y hy).set _ _ _, h.inj, fun y hy => ⟨(h.pend y hy).1, (h.pend y hy).2.carry (hO y (h.pend y hy).1 (fun e => c2 (e ▸ hy))) hB (fun _ h => h)⟩, h.nodup, fun y j e => ?_, fun y hy h1 h2 => ?_, ?_⟩
  · simp only [Option.some.injEq, Prod.mk.injEq] at e
    obtain ⟨rfl, rfl⟩ := e
    exact ⟨c1, c2, by omega, cp_set h hi (fun _ h => h) (.inl ⟨rfl, rfl⟩)⟩
  · have hne := h2 x (i + 1) rfl
    exact (h.done y hy h1 (fun z j e => by simp only [Option.some.injEq, Prod.mk.injEq] at e; rw [← e.1]; exact hne)).carry (hO y hy hne) hB (fun _ h => h)
  · have := h.mass
    have hb := Lv.belows_drop hi
    simp only [curLeft] at this ⊢
    simp only [Lv.sizes] at hb
    omega

theorem CI.push {w wr w1 : World} {A P : List Cp} {x y : Cp} {i N : Nat} {k n : Int} {args : List Lv} (h : CI w wr A P (some (x, i)) N) (hi : x.l[i]? = some (.mk k n args)) (hb : Below wr.heap.size wr w1) (hyg : wr.heap.size ≤ y.g) (hyl : y.l = args) (hok : CpOk w1 w.heap.size y) (hin : InAll w1 (· < w.heap.size) y.g 0 args) :
    CI w (w1.setCell ⟨x.g, i * 3 + 2, none⟩ y.val) (y :: A) (y :: P) (some (x, i + 1)) N := by
  have hB1 : Below w.heap.size wr w1 := hb.mono h.low.size
  have h1 := h.carry hB1 (fun z hz => hb.block _ (h.ok z hz).lt)
  obtain ⟨c1, c2, c3, c4⟩ := h1.cur x _ rfl
  have hge := (h1.ok x c1).ge
  have hxlt := (h.ok x c1).lt
  have hlt := (List.getElem?_eq_some_iff.1 hi).1
  have hB : ∀ k, k < w.heap.size → (w1.setCell ⟨x.g, i * 3 + 2, none⟩ y.val).heap[k]? = w1.heap[k]? := fun k hk => Below.heap_setCell _ _ _ _ (fun e => by have e' : k = x.g := e; omega)
  have hO : ∀ z ∈ A, z ≠ x → (w1.setCell ⟨x.g, i * 3 + 2, none⟩ y.val).heap[z.g]? = w1.heap[z.g]? := fun z hz hne => Below.heap_setCell _ _ _ _ (fun e => hne (h.inj z hz x c1 e))
  have hyO : (w1.setCell ⟨x.g, i * 3 + 2, none⟩ y.val).heap[y.g]? = w1.heap[y.g]? := Below.heap_setCell _ _ _ _ (fun e => by have e' : y.g = x.g := e; omega)
  have hyA : ∀ z ∈ A, z.g ≠ y.g := fun z hz e => by have := (h.ok z hz).lt; omega
  have hup : ∀ z ∈ A, z ∈ y :: A := fun z hz => List.mem_cons_of_mem _ hz
  have hyx : y ≠ x := fun e => by rw [e] at hyg; omega
  refine ⟨h1.low.setCell (p := ⟨x.g, i * 3 + 2, none⟩) hge _, fun z hz => ?_, fun a ha b hb' e => ?_, fun z hz => ?_, ?_, fun z j e => ?_, fun z hz hn1 hn2 => ?_, ?_⟩
  · rcases List.mem_cons.1 hz with rfl | hz
    · exact hok.set _ _ _
    · exact (h1.ok z hz).set _ _ _
  · rcases List.mem_cons.1 ha with e1 | ha
    · rcases List.mem_cons.1 hb' with e2 | hb'
      · rw [e1, e2]
      · exact (hyA b hb' (by rw [← e, e1])).elim
    · rcases List.mem_cons.1 hb' with e2 | hb'
      · exact (hyA a ha (by rw [e, e2])).elim
      · exact h.inj a ha b hb' e
  · rcases List.mem_cons.1 hz with rfl | hz
    · refine ⟨List.mem_cons_self .., ?_⟩
      have := elold_of (l := z.l) (g := z.g) (by rw [hyl]; exact hin) (z :: A) z.c
      exact CpAt.carry (x := z) this hyO hB (fun _ h => h)
    · exact ⟨hup z (h1.pend z hz).1, (h1.pend z hz).2.carry (hO z (h1.pend z hz).1 (fun e => c2 (e ▸ hz))) hB hup⟩
  · refine List.nodup_cons.2 ⟨fun hm => ?_, h.nodup⟩
    exact hyA y (h.pend y hm).1 rfl
  · simp only [Option.some.injEq, Prod.mk.injEq] at e
    obtain ⟨rfl, rfl⟩ := e
    exact ⟨hup _ c1, fun hm => by rcases List.mem_cons.1 hm with e | hm; exact hyx e.symm; exact c2 hm, by omega, cp_set h1 hi hup (.inr ⟨y, List.mem_cons_self .., hyl, rfl⟩)⟩
  · have hne := hn2 x (i + 1) rfl
    rcases List.mem_cons.1 hz with rfl | hz
    · exact (hn1 (List.mem_cons_self ..)).elim
    · exact (h1.done z hz (fun hm => hn1 (List.mem_cons_of_mem _ hm)) (fun a j e => by simp only [Option.some.injEq, Prod.mk.injEq] at e; rw [← e.1]; exact hne)).carry (hO z hz hne) hB hup
  · have := h.mass
    have hb := Lv.belows_drop hi
    simp only [cpMass, curLeft, hyl] at this ⊢
    omega
end Go.Proofs.YtbmijpjmdpdfkaaDoor
