/- Levels whose rows are written over stay levels, no greater. Of no program; no condition. -/
import Derived.Test.YtogfmpjgmabomaaDoorMk
namespace Go.Proofs.YtogfmpjgmabomaaDoor
open Go.RowKit

/-- For each there is one: a list of them. -/
theorem list_choice {α β : Type} (args : List α) : ∀ (P : Nat → α → β → Prop), (∀ j L, args[j]? = some L → ∃ L', P j L L') → ∃ args' : List β, args'.length = args.length ∧ ∀ j L', args'[j]? = some L' → ∃ L, args[j]? = some L ∧ P j L L' := by
  induction args with
  | nil => intro P _; exact ⟨[], rfl, fun j L' h => by simp at h⟩
  | cons x r ih =>
    intro P h
    obtain ⟨y, hy⟩ := h 0 x rfl
    obtain ⟨r', hl, hr⟩ := ih (fun j => P (j + 1)) (fun j L hj => h (j + 1) L (by simpa using hj))
    refine ⟨y :: r', by simp [hl], fun j L' hj => ?_⟩
    cases j with
    | zero => simp at hj; subst hj; exact ⟨x, rfl, hy⟩
    | succ j => obtain ⟨L, h1, h2⟩ := hr j L' (by simpa using hj); exact ⟨L, by simpa using h1, h2⟩

theorem Lv.sizes_le {a' : List Lv} : ∀ {a : List Lv}, a'.length = a.length → (∀ (j : Nat) (L' : Lv), a'[j]? = some L' → ∃ L : Lv, a[j]? = some L ∧ L'.size ≤ L.size) → Lv.sizes a' ≤ Lv.sizes a := by
  induction a' with
  | nil => intro a _ _; simp [Lv.sizes]
  | cons x r ih =>
    intro a hl h
    cases a with
    | nil => simp at hl
    | cons y s =>
      obtain ⟨L, h1, h2⟩ := h 0 x rfl
      simp at h1
      subst h1
      have := ih (a := s) (by simpa using hl) (fun j L' hj => by obtain ⟨L, g1, g2⟩ := h (j + 1) L' (by simpa using hj); exact ⟨L, by simpa using g1, g2⟩)
      simp only [Lv.sizes]
      omega

/-- A triple of a row is written over: what was a level of its own still is one, no greater. -/
theorem Own.over {w w' : World} {S : Nat → Prop} {g : Nat} {l : List Value} (hg : Blk w g 24 l) {i : Nat} (hi : i * 3 + 2 < l.length) (hb : ∀ b, b ≠ g → b < w.heap.size → w'.heap[b]? = w.heap[b]?)
    (hg' : Blk w' g 24 (((l.set (i * 3) (.int .i64 9)).set (i * 3 + 1) (.int .i64 0)).set (i * 3 + 2) (.slice none 0 0))) (L : Lv) : ∀ v, Own w S L v → ∃ L' : Lv, L'.size ≤ L.size ∧ Own w' S L' v := by
  refine Lv.ind (P := fun L => ∀ v, Own w S L v → ∃ L' : Lv, L'.size ≤ L.size ∧ Own w' S L' v) ?_ L
  intro k n args ih v h
  rw [own_mk] at h
  obtain ⟨a, cap, h1, h2, h3, h4, h5, h6⟩ := h
  rcases h6 with h6 | ⟨b, l', h6, h7, h8, h9⟩
  · exact ⟨.mk k n args, Nat.le_refl _, by rw [own_mk]; exact ⟨a, cap, h1, h2, h3, h4, h5, .inl h6⟩⟩
  · have leaf : Own w' S (.mk 9 0 []) (.agg #[.int .i64 9, .int .i64 0, .slice none 0 0]) := own_leaf w' S (by omega) (by omega) none
    have key : ∃ l'', Blk w' b 24 l'' ∧ ∀ j L, args[j]? = some L → ∃ L' : Lv, L'.size ≤ L.size ∧ ∃ c0 c1 c2, l''[j * 3]? = some c0 ∧ l''[j * 3 + 1]? = some c1 ∧ l''[j * 3 + 2]? = some c2 ∧ Own w' S L' (.agg #[c0, c1, c2]) := by
      by_cases hbg : b = g
      · subst hbg
        obtain rfl : l' = l := by
          unfold Blk at h8 hg
          rw [h8] at hg
          simpa using hg
        refine ⟨_, hg', fun j L hj => ?_⟩
        by_cases e : j = i
        · subst e
          refine ⟨.mk 9 0 [], by rw [Lv.size_mk]; simp only [Lv.sizes]; have := Lv.size_pos L; omega, _, _, _, ?_, ?_, ?_, leaf⟩
          · rw [List.getElem?_set_ne (by omega), List.getElem?_set_ne (by omega), List.getElem?_set_self (by omega)]
          · rw [List.getElem?_set_ne (by omega), List.getElem?_set_self (by simp; omega)]
          · rw [List.getElem?_set_self (by simp; omega)]
        · obtain ⟨c0, c1, c2, e0, e1, e2, hL⟩ := h9.get j L hj
          obtain ⟨L', s, o⟩ := ih L (List.mem_of_getElem? hj) _ hL
          refine ⟨L', s, c0, c1, c2, ?_, ?_, ?_, o⟩
          · rw [List.getElem?_set_ne (by omega), List.getElem?_set_ne (by omega), List.getElem?_set_ne (by omega)]; exact e0
          · rw [List.getElem?_set_ne (by omega), List.getElem?_set_ne (by omega), List.getElem?_set_ne (by omega)]; exact e1
          · rw [List.getElem?_set_ne (by omega), List.getElem?_set_ne (by omega), List.getElem?_set_ne (by omega)]; exact e2
      · refine ⟨l', h8.carry (hb b hbg h8.lt), fun j L hj => ?_⟩
        obtain ⟨c0, c1, c2, e0, e1, e2, hL⟩ := h9.get j L hj
        obtain ⟨L', s, o⟩ := ih L (List.mem_of_getElem? hj) _ hL
        exact ⟨L', s, c0, c1, c2, e0, e1, e2, o⟩
    obtain ⟨l'', hB, hall⟩ := key
    obtain ⟨args', hl, hr⟩ := list_choice args (fun j L (L' : Lv) => L'.size ≤ L.size ∧ ∃ c0 c1 c2, l''[j * 3]? = some c0 ∧ l''[j * 3 + 1]? = some c1 ∧ l''[j * 3 + 2]? = some c2 ∧ Own w' S L' (.agg #[c0, c1, c2])) hall
    refine ⟨.mk k n args', ?_, ?_⟩
    · rw [Lv.size_mk, Lv.size_mk]
      have := Lv.sizes_le hl (fun j L' hj => by obtain ⟨L, g1, g2, _⟩ := hr j L' hj; exact ⟨L, g1, g2⟩)
      omega
    · rw [own_mk]
      refine ⟨a, cap, by rw [hl]; exact h1, h2, h3, by omega, h5, .inr ⟨b, l'', h6, h7, hB, OwnAll.of_get fun j L' hj => ?_⟩⟩
      obtain ⟨_, _, _, g3⟩ := hr j L' hj
      exact g3

/-- What writing over leaves. -/
structure Wiped (w w' : World) (S : Nat → Prop) : Prop where
  keep : Keep w w' S
  own : ∀ (L : Lv) v, Own w S L v → ∃ L' : Lv, L'.size ≤ L.size ∧ Own w' S L' v
theorem Wiped.refl (w : World) (S : Nat → Prop) : Wiped w w S := ⟨Keep.refl _ _, fun L _ h => ⟨L, Nat.le_refl _, h⟩⟩
theorem Wiped.trans {a b c : World} {S : Nat → Prop} (h : Wiped a b S) (k : Wiped b c S) : Wiped a c S :=
  ⟨h.keep.trans k.keep (fun _ _ h => h), fun L v hL => by
    obtain ⟨L1, s1, o1⟩ := h.own L v hL
    obtain ⟨L2, s2, o2⟩ := k.own L1 v o1
    exact ⟨L2, Nat.le_trans s2 s1, o2⟩⟩
theorem Wiped.below {w w' : World} {S : Nat → Prop} (h : Below w.heap.size w w') : Wiped w w' S :=
  ⟨Keep.of_below h (Nat.le_refl _), fun L v hL => ⟨L, Nat.le_refl _, Own.carry (fun b _ hlt => h.block b hlt) (fun _ h _ => h) L v hL⟩⟩
theorem Wiped.over {w : World} {S : Nat → Prop} {g : Nat} {l : List Value} (hg : Blk w g 24 l) (hS : S g) {i : Nat} (hi : i * 3 + 2 < l.length) :
    Wiped w (((w.setCell ⟨g, i * 3, none⟩ (.int .i64 9)).setCell ⟨g, i * 3 + 1, none⟩ (.int .i64 0)).setCell ⟨g, i * 3 + 2, none⟩ (.slice none 0 0)) S := by
  have hK : Keep w (((w.setCell ⟨g, i * 3, none⟩ (.int .i64 9)).setCell ⟨g, i * 3 + 1, none⟩ (.int .i64 0)).setCell ⟨g, i * 3 + 2, none⟩ (.slice none 0 0)) (· = g) :=
    (((Keep.refl w (· = g)).setCell (g := g) (fun _ => rfl) _ _).setCell (g := g) (fun _ => rfl) _ _).setCell (g := g) (fun _ => rfl) _ _
  exact ⟨hK.mono (fun b e => by subst e; exact hS), fun L v hL => Own.over hg hi (fun b hne hlt => hK.block b hlt hne) (((hg.set _ _).set _ _).set _ _) L v hL⟩

theorem Lv.eqB_refl (x : Lv) : x.eqB x = true := by
  refine Lv.ind (P := fun x => x.eqB x = true) ?_ x
  intro k n args ih
  rw [Lv.eqB_mk]
  have : Lv.eqs args args = true := by
    induction args with
    | nil => rw [Lv.eqs]
    | cons x r ihr => rw [Lv.eqs, ih x (by simp), ihr (fun L hL => ih L (by simp [hL]))]; rfl
  simp [this]
end Go.Proofs.YtogfmpjgmabomaaDoor
