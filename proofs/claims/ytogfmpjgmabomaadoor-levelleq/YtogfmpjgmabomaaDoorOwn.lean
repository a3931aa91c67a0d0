/- Levels whose rows are blocks of their own. Of no program; no condition. -/
import Derived.Test.YtogfmpjgmabomaaDoorMem
namespace Go.Proofs.YtogfmpjgmabomaaDoor
open Go.RowKit

mutual
/-- The value v is the level L; each row of it begins a block of S that may be written. -/
def Own (w : World) (S : Nat → Prop) : Lv → Value → Prop
  | .mk k n args, v => ∃ a cap, v = .agg #[.int .i64 k, .int .i64 n, .slice a args.length cap] ∧ (-9223372036854775808 ≤ k ∧ k ≤ 9223372036854775807) ∧ (-9223372036854775808 ≤ n ∧ n ≤ 9223372036854775807) ∧
      args.length ≤ cap ∧ cap ≤ maxLen ∧ (args = [] ∨ ∃ b l, a = some ⟨b, 0, none⟩ ∧ S b ∧ Blk w b 24 l ∧ OwnAll w S l args)
def OwnAll (w : World) (S : Nat → Prop) : List Value → List Lv → Prop
  | _, [] => True
  | l, L :: r => (∃ c0 c1 c2 t, l = c0 :: c1 :: c2 :: t ∧ Own w S L (.agg #[c0, c1, c2]) ∧ OwnAll w S t r)
end
theorem own_mk {w : World} {S : Nat → Prop} {k n : Int} {args : List Lv} {v : Value} : Own w S (.mk k n args) v ↔ ∃ a cap, v = .agg #[.int .i64 k, .int .i64 n, .slice a args.length cap] ∧ (-9223372036854775808 ≤ k ∧ k ≤ 9223372036854775807) ∧ (-9223372036854775808 ≤ n ∧ n ≤ 9223372036854775807) ∧
      args.length ≤ cap ∧ cap ≤ maxLen ∧ (args = [] ∨ ∃ b l, a = some ⟨b, 0, none⟩ ∧ S b ∧ Blk w b 24 l ∧ OwnAll w S l args) := by rw [Own]
theorem ownAll_cons {w : World} {S : Nat → Prop} {l : List Value} {L : Lv} {r : List Lv} : OwnAll w S l (L :: r) ↔ (∃ c0 c1 c2 t, l = c0 :: c1 :: c2 :: t ∧ Own w S L (.agg #[c0, c1, c2]) ∧ OwnAll w S t r) := by rw [OwnAll]
theorem ownAll_nil {w : World} {S : Nat → Prop} {l : List Value} : OwnAll w S l [] := by rw [OwnAll]; trivial

theorem Own.carry {w w' : World} {S T : Nat → Prop} (hb : ∀ b, S b → b < w.heap.size → w'.heap[b]? = w.heap[b]?) (hT : ∀ b, S b → b < w.heap.size → T b) (L : Lv) : ∀ v, Own w S L v → Own w' T L v := by
  refine Lv.ind (P := fun L => ∀ v, Own w S L v → Own w' T L v) ?_ L
  intro k n args ih v h
  rw [own_mk] at h ⊢
  obtain ⟨a, cap, h1, h2, h3, h4, h5, h6⟩ := h
  refine ⟨a, cap, h1, h2, h3, h4, h5, ?_⟩
  rcases h6 with h6 | ⟨b, l, h6, h7, h8, h9⟩
  · exact .inl h6
  · refine .inr ⟨b, l, h6, hT b h7 h8.lt, h8.carry (hb b h7 h8.lt), ?_⟩
    clear h1 h2 h3 h4 h5 h6 h8
    induction args generalizing l with
    | nil => exact ownAll_nil
    | cons x r ihr =>
      rw [ownAll_cons] at h9 ⊢
      obtain ⟨c0, c1, c2, t, e, hx, hr⟩ := h9
      exact ⟨c0, c1, c2, t, e, ih x (by simp) _ hx, ihr (fun L hL => ih L (by simp [hL])) _ hr⟩

theorem Own.keep {w w' : World} {S T : Nat → Prop} {L : Lv} {v : Value} (h : Own w S L v) (hk : Keep w w' T) (hn : ∀ b, S b → ¬ T b) : Own w' S L v :=
  Own.carry (fun b hS hlt => hk.block b hlt (hn b hS)) (fun _ h _ => h) L v h
theorem Own.mono {w : World} {S T : Nat → Prop} {L : Lv} {v : Value} (h : Own w S L v) (hT : ∀ b, S b → T b) : Own w T L v := Own.carry (fun _ _ _ => rfl) (fun b h _ => hT b h) L v h

/-- The i-th triple of a row. -/
theorem OwnAll.get {w : World} {S : Nat → Prop} {args : List Lv} : ∀ {l : List Value}, OwnAll w S l args → ∀ i L, args[i]? = some L → ∃ c0 c1 c2, l[i * 3]? = some c0 ∧ l[i * 3 + 1]? = some c1 ∧ l[i * 3 + 2]? = some c2 ∧ Own w S L (.agg #[c0, c1, c2]) := by
  induction args with
  | nil => intro l _ i L h; simp at h
  | cons x r ih =>
    intro l h i L hi
    rw [ownAll_cons] at h
    obtain ⟨c0, c1, c2, t, rfl, hx, hr⟩ := h
    cases i with
    | zero => simp at hi; subst hi; exact ⟨c0, c1, c2, rfl, rfl, rfl, hx⟩
    | succ i =>
      obtain ⟨d0, d1, d2, e0, e1, e2, hL⟩ := ih hr i L (by simpa using hi)
      refine ⟨d0, d1, d2, ?_, ?_, ?_, hL⟩
      · rw [show (i + 1) * 3 = i * 3 + 1 + 1 + 1 by omega]; simpa using e0
      · rw [show (i + 1) * 3 + 1 = i * 3 + 1 + 1 + 1 + 1 by omega]; simpa using e1
      · rw [show (i + 1) * 3 + 2 = i * 3 + 2 + 1 + 1 + 1 by omega]; simpa using e2
theorem OwnAll.of_get {w : World} {S : Nat → Prop} {args : List Lv} : ∀ {l : List Value}, (∀ i L, args[i]? = some L → ∃ c0 c1 c2, l[i * 3]? = some c0 ∧ l[i * 3 + 1]? = some c1 ∧ l[i * 3 + 2]? = some c2 ∧ Own w S L (.agg #[c0, c1, c2])) → OwnAll w S l args := by
  induction args with
  | nil => intro l _; exact ownAll_nil
  | cons x r ih =>
    intro l h
    rw [ownAll_cons]
    obtain ⟨c0, c1, c2, e0, e1, e2, hx⟩ := h 0 x rfl
    match l, e0, e1, e2 with
    | d0 :: d1 :: d2 :: t, e0, e1, e2 =>
      simp at e0 e1 e2
      subst e0 e1 e2
      refine ⟨d0, d1, d2, t, rfl, hx, ih fun i L hi => ?_⟩
      obtain ⟨c0, c1, c2, f0, f1, f2, hL⟩ := h (i + 1) L (by simpa using hi)
      rw [show (i + 1) * 3 = i * 3 + 1 + 1 + 1 by omega] at f0
      rw [show (i + 1) * 3 + 1 = i * 3 + 1 + 1 + 1 + 1 by omega] at f1
      rw [show (i + 1) * 3 + 2 = i * 3 + 2 + 1 + 1 + 1 by omega] at f2
      exact ⟨c0, c1, c2, by simpa using f0, by simpa using f1, by simpa using f2, hL⟩
    | [], e0, _, _ => simp at e0
    | [_], _, e1, _ => simp at e1
    | [_, _], _, _, e2 => simp at e2

theorem Own.is_in {w : World} {S : Nat → Prop} (L : Lv) : ∀ v, Own w S L v → In w S L v := by
  refine Lv.ind (P := fun L => ∀ v, Own w S L v → In w S L v) ?_ L
  intro k n args ih v h
  rw [own_mk] at h
  rw [in_mk]
  obtain ⟨a, cap, h1, h2, h3, h4, h5, h6⟩ := h
  refine ⟨a, cap, h1, h2, h3, h4, h5, ?_⟩
  rcases h6 with h6 | ⟨b, l, h6, h7, h8, h9⟩
  · exact .inl h6
  · refine .inr ⟨b, 0, h6, h7, InAll.of_get fun i L hi => ?_⟩
    obtain ⟨c0, c1, c2, e0, e1, e2, hL⟩ := h9.get i L hi
    rw [Nat.zero_add]
    exact ⟨c0, c1, c2, h8.cell e0, h8.cell e1, h8.cell e2, ih L (List.mem_of_getElem? hi) _ hL⟩
/-- As a level that lies anywhere in the world. -/
theorem Own.low {w : World} {S : Nat → Prop} {L : Lv} {v : Value} (h : Own w S L v) : In w (· < w.heap.size) L v :=
  Own.is_in L v (Own.carry (S := S) (fun _ _ _ => rfl) (fun _ _ h => h) L v h)
theorem own_leaf (w : World) (S : Nat → Prop) {k n : Int} (h1 : -9223372036854775808 ≤ k ∧ k ≤ 9223372036854775807) (h2 : -9223372036854775808 ≤ n ∧ n ≤ 9223372036854775807) (a : Option Addr) : Own w S (.mk k n []) (.agg #[.int .i64 k, .int .i64 n, .slice a 0 0]) := by
  rw [own_mk]; exact ⟨a, 0, rfl, h1, h2, Nat.le_refl _, by decide, .inl rfl⟩
theorem Own.shape {w : World} {S : Nat → Prop} {L : Lv} {v : Value} (h : Own w S L v) : ∃ k n a len cap, v = .agg #[.int .i64 k, .int .i64 n, .slice a len cap] := by
  obtain ⟨k, n, args⟩ := L
  rw [own_mk] at h
  obtain ⟨a, cap, h1, _⟩ := h
  exact ⟨k, n, a, _, cap, h1⟩
theorem In.shape {w : World} {S : Nat → Prop} {L : Lv} {v : Value} (h : In w S L v) : ∃ k n a len cap, v = .agg #[.int .i64 k, .int .i64 n, .slice a len cap] := by
  obtain ⟨k, n, args⟩ := L
  obtain ⟨a, cap, h1, _⟩ := h.node
  exact ⟨k, n, a, _, cap, h1⟩

/-! ### Levels with others in the place of their parameters -/
mutual
def Lv.put (by_ : List Lv) : Lv → Lv
  | .mk k n args => if k = 4 ∧ 0 ≤ n ∧ n < by_.length then by_.getD n.toNat (.mk 0 0 []) else .mk k n (Lv.puts by_ args)
def Lv.puts (by_ : List Lv) : List Lv → List Lv
  | [] => []
  | L :: r => L.put by_ :: Lv.puts by_ r
end
theorem Lv.put_mk (by_ : List Lv) (k n : Int) (args : List Lv) : (Lv.mk k n args).put by_ = if k = 4 ∧ 0 ≤ n ∧ n < by_.length then by_.getD n.toNat (.mk 0 0 []) else .mk k n (Lv.puts by_ args) := by rw [Lv.put]
theorem Lv.puts_map (by_ : List Lv) (l : List Lv) : Lv.puts by_ l = l.map (Lv.put by_) := by
  induction l with
  | nil => rw [Lv.puts]; rfl
  | cons x r ih => rw [Lv.puts, ih]; rfl
theorem Lv.puts_length (by_ : List Lv) (l : List Lv) : (Lv.puts by_ l).length = l.length := by rw [Lv.puts_map]; simp
theorem Lv.put_nil (L : Lv) : L.put [] = L := by
  refine Lv.ind (P := fun L => L.put [] = L) ?_ L
  intro k n args ih
  rw [Lv.put_mk, if_neg (by simp), Lv.puts_map]
  congr 1
  conv => rhs; rw [← List.map_id args]
  exact List.map_congr_left ih
end Go.Proofs.YtogfmpjgmabomaaDoor
