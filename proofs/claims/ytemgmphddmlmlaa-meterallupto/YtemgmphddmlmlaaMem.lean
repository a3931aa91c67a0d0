/- Levels in memory; blocks that are known whole; what stays. Of no program; no condition. -/
import Derived.Test.YtemgmphddmlmlaaPlain
import Derived.WalkKit
import Derived.WalkSpells
import Derived.WalkLawsBesides
import Derived.Below
import Derived.Laws.MakeOwn
import Derived.Laws.AppendOwn
import Derived.RegionTactic
import Derived.Deep.MidRow
import Derived.Deep.QuietTactic
import Derived.BigQuiet
namespace Go.Proofs.Ytemgmphddmlmlaa
open Go.RowKit

/-- Block g holds just these cells. -/
def Blk (w : World) (g : Nat) (t : TypeId) (l : List Value) : Prop := w.heap[g]? = some (.cells l.toArray t (0, 0))

theorem Blk.cell {w : World} {g : Nat} {t : TypeId} {l : List Value} (h : Blk w g t l) {j : Nat} {v : Value} (hj : l[j]? = some v) : w.cell? ⟨g, j, none⟩ = some v := by
  rw [cell_of_row w g j l.toArray t (0, 0) h]; simpa using hj

theorem Blk.frozen {w : World} {g : Nat} {t : TypeId} {l : List Value} (h : Blk w g t l) (j : Nat) : w.frozen? ⟨g, j, none⟩ = false := by
  unfold Blk at h
  simp [World.frozen?, h]

theorem Blk.lt {w : World} {g : Nat} {t : TypeId} {l : List Value} (h : Blk w g t l) : g < w.heap.size := (Array.getElem?_eq_some_iff.1 h).1

theorem Blk.set {w : World} {g : Nat} {t : TypeId} {l : List Value} (h : Blk w g t l) (j : Nat) (v : Value) : Blk (w.setCell ⟨g, j, none⟩ v) g t (l.set j v) := by
  unfold Blk at h ⊢
  simp [World.setCell, Array.getElem?_modify, h]

theorem Blk.carry {w w' : World} {g : Nat} {t : TypeId} {l : List Value} (h : Blk w g t l) (hb : w'.heap[g]? = w.heap[g]?) : Blk w' g t l := by unfold Blk; rw [hb]; exact h

theorem Blk.other {w : World} {g : Nat} {t : TypeId} {l : List Value} (h : Blk w g t l) {g' j : Nat} (v : Value) (hne : g ≠ g') : Blk (w.setCell ⟨g', j, none⟩ v) g t l :=
  h.carry (Below.heap_setCell _ _ _ _ (fun e => hne (by simpa using e)))

theorem Blk.drew {w : World} {g : Nat} {t : TypeId} {l : List Value} (h : Blk w g t l) : Blk w.drew g t l := h.carry rfl

theorem Blk.drewN {w : World} {g : Nat} {t : TypeId} {l : List Value} (h : Blk w g t l) (n : Nat) : Blk (w.drewN n) g t l := h.carry rfl

theorem bel_drewN {B : Nat} {a w : World} (h : Below B a w) (n : Nat) : Below B a (w.drewN n) := h.trans ⟨rfl, rfl, rfl, Nat.le_refl _, fun _ _ => rfl⟩

theorem Blk.alloc {w : World} {g : Nat} {t : TypeId} {l : List Value} (h : Blk w g t l) (o : Obj) : Blk (w.alloc o) g t l := h.carry (Below.heap_alloc w o g h.lt)

theorem Blk.new (w : World) (t : TypeId) (l : List Value) : Blk (w.alloc (.cells l.toArray t)) w.heap.size t l := heap_alloc_new w _

theorem Blk.below {C : Nat} {w w' : World} {g : Nat} {t : TypeId} {l : List Value} (h : Blk w g t l) (hb : Below C w w') (hg : g < C) : Blk w' g t l := h.carry (hb.block g hg)

/-- All blocks that were there stay as they were, but those in S. -/
structure Keep (w w' : World) (S : Nat → Prop) : Prop where
  os : w'.os = w.os
  tape : w'.tape = w.tape
  output : w'.output = w.output
  size : w.heap.size ≤ w'.heap.size
  block : ∀ k, k < w.heap.size → ¬ S k → w'.heap[k]? = w.heap[k]?

theorem Keep.refl (w : World) (S : Nat → Prop) : Keep w w S := ⟨rfl, rfl, rfl, Nat.le_refl _, fun _ _ _ => rfl⟩

theorem Keep.trans {a b c : World} {S T : Nat → Prop} (h : Keep a b S) (k : Keep b c T) (hT : ∀ i, i < a.heap.size → T i → S i) : Keep a c S :=
  ⟨k.os.trans h.os, k.tape.trans h.tape, k.output.trans h.output, Nat.le_trans h.size k.size, fun i hi hS => (k.block i (Nat.lt_of_lt_of_le hi h.size) (fun ht => hS (hT i hi ht))).trans (h.block i hi hS)⟩

theorem Keep.mono {a b : World} {S T : Nat → Prop} (h : Keep a b S) (hT : ∀ i, S i → T i) : Keep a b T := ⟨h.os, h.tape, h.output, h.size, fun i hi hS => h.block i hi (fun x => hS (hT i x))⟩

theorem Keep.of_below {B : Nat} {w w' : World} {S : Nat → Prop} (h : Below B w w') (hB : w.heap.size ≤ B) : Keep w w' S := ⟨h.os, h.tape, h.output, h.size, fun i hi _ => h.block i (Nat.lt_of_lt_of_le hi hB)⟩

theorem Keep.setCell {a w : World} {S : Nat → Prop} (h : Keep a w S) {g : Nat} (hS : g < a.heap.size → S g) (j : Nat) (v : Value) : Keep a (w.setCell ⟨g, j, none⟩ v) S :=
  ⟨h.os, h.tape, h.output, by simp [World.setCell]; exact h.size, fun i hi hn => by
    rw [Below.heap_setCell w ⟨g, j, none⟩ v i (fun e => hn (by simp at e; subst e; exact hS hi))]; exact h.block i hi hn⟩

theorem Keep.alloc {a w : World} {S : Nat → Prop} (h : Keep a w S) (o : Obj) : Keep a (w.alloc o) S :=
  ⟨h.os, h.tape, h.output, by simp; have := h.size; omega, fun i hi hn => (Below.heap_alloc w o i (Nat.lt_of_lt_of_le hi h.size)).trans (h.block i hi hn)⟩

theorem Keep.drew {a w : World} {S : Nat → Prop} (h : Keep a w S) : Keep a w.drew S := ⟨h.os, h.tape, h.output, h.size, h.block⟩

theorem Keep.drewN {a w : World} {S : Nat → Prop} (h : Keep a w S) (n : Nat) : Keep a (w.drewN n) S := ⟨h.os, h.tape, h.output, h.size, h.block⟩

theorem Keep.below {B : Nat} {w w' : World} {S : Nat → Prop} (h : Keep w w' S) (hB : B ≤ w.heap.size) (hS : ∀ k, S k → B ≤ k) : Below B w w' :=
  ⟨h.os, h.tape, h.output, h.size, fun k hk => h.block k (Nat.lt_of_lt_of_le hk hB) (fun s => by have := hS k s; omega)⟩

theorem Keep.low {a b c : World} {S : Nat → Prop} {B : Nat} (h : Keep a b S) (k : Below B b c) (hB : a.heap.size ≤ B) : Keep a c S :=
  ⟨k.os.trans h.os, k.tape.trans h.tape, k.output.trans h.output, Nat.le_trans h.size k.size, fun i hi hS => (k.block i (by omega)).trans (h.block i hi hS)⟩

theorem Blk.keep {w w' : World} {S : Nat → Prop} {g : Nat} {t : TypeId} {l : List Value} (h : Blk w g t l) (hk : Keep w w' S) (hn : ¬ S g) : Blk w' g t l := h.carry (hk.block g h.lt hn)

theorem bcell {W w1 : World} (hb : Below W.heap.size W w1) : (∀ b o, b < W.heap.size → w1.cell? ⟨b, o, none⟩ = W.cell? ⟨b, o, none⟩) ∧ (∀ b o, b < W.heap.size → w1.frozen? ⟨b, o, none⟩ = W.frozen? ⟨b, o, none⟩) :=
  ⟨fun b o h => hb.cell (p := ⟨b, o, none⟩) h, fun b o h => hb.frozen (p := ⟨b, o, none⟩) h⟩

theorem ret_int {k : IntKind} {a b : Int} (h : a = b) : Ending.returned (.int k a) = .returned (.int k b) := by rw [h]

theorem ret_bool {a b : Bool} (h : a = b) : Ending.returned (.bool a) = .returned (.bool b) := by rw [h]

mutual

/-- The value v is the level L; what lies behind it lies in blocks of S. -/
def In (w : World) (S : Nat → Prop) : Lv → Value → Prop
  | .mk k n args, v => ∃ a cap, v = .agg #[.int .i64 k, .int .i64 n, .slice a args.length cap] ∧ (-9223372036854775808 ≤ k ∧ k ≤ 9223372036854775807) ∧ (-9223372036854775808 ≤ n ∧ n ≤ 9223372036854775807) ∧
      args.length ≤ cap ∧ cap ≤ maxLen ∧ (args = [] ∨ ∃ b off, a = some ⟨b, off, none⟩ ∧ S b ∧ InAll w S b off args)

/-- The levels of a list, one behind the other, from a place on. -/
def InAll (w : World) (S : Nat → Prop) (b : Nat) : Nat → List Lv → Prop
  | _, [] => True
  | off, L :: r => (∃ c0 c1 c2, w.cell? ⟨b, off, none⟩ = some c0 ∧ w.cell? ⟨b, off + 1, none⟩ = some c1 ∧ w.cell? ⟨b, off + 2, none⟩ = some c2 ∧ In w S L (.agg #[c0, c1, c2])) ∧ InAll w S b (off + 3) r

end

theorem in_mk {w : World} {S : Nat → Prop} {k n : Int} {args : List Lv} {v : Value} : In w S (.mk k n args) v ↔ ∃ a cap, v = .agg #[.int .i64 k, .int .i64 n, .slice a args.length cap] ∧ (-9223372036854775808 ≤ k ∧ k ≤ 9223372036854775807) ∧ (-9223372036854775808 ≤ n ∧ n ≤ 9223372036854775807) ∧
      args.length ≤ cap ∧ cap ≤ maxLen ∧ (args = [] ∨ ∃ b off, a = some ⟨b, off, none⟩ ∧ S b ∧ InAll w S b off args) := by rw [In]

theorem inAll_cons {w : World} {S : Nat → Prop} {b off : Nat} {L : Lv} {r : List Lv} : InAll w S b off (L :: r) ↔ (∃ c0 c1 c2, w.cell? ⟨b, off, none⟩ = some c0 ∧ w.cell? ⟨b, off + 1, none⟩ = some c1 ∧ w.cell? ⟨b, off + 2, none⟩ = some c2 ∧ In w S L (.agg #[c0, c1, c2])) ∧ InAll w S b (off + 3) r := by rw [InAll]

/-- It stays where its blocks stay. -/
theorem In.carry {w w' : World} {S T : Nat → Prop} (hb : ∀ b, S b → w'.heap[b]? = w.heap[b]?) (hT : ∀ b, S b → T b) (L : Lv) : ∀ v, In w S L v → In w' T L v := by
  refine Lv.ind (P := fun L => ∀ v, In w S L v → In w' T L v) ?_ L
  intro k n args ih v h
  rw [in_mk] at h ⊢
  obtain ⟨a, cap, h1, h2, h3, h4, h5, h6⟩ := h
  refine ⟨a, cap, h1, h2, h3, h4, h5, ?_⟩
  rcases h6 with h6 | ⟨b, off, h6, h7, h8⟩
  · exact .inl h6
  · refine .inr ⟨b, off, h6, hT b h7, ?_⟩
    clear h1 h2 h3 h4 h5 h6
    induction args generalizing off with
    | nil => rw [InAll]; trivial
    | cons x r ihr =>
      rw [inAll_cons] at h8 ⊢
      obtain ⟨⟨c0, c1, c2, e0, e1, e2, hx⟩, hr⟩ := h8
      refine ⟨⟨c0, c1, c2, ?_, ?_, ?_, ih x (by simp) _ hx⟩, ihr (fun L hL => ih L (by simp [hL])) _ hr⟩
      · rw [World.cell?_of_block (w := w) (hb b h7)]; exact e0
      · rw [World.cell?_of_block (w := w) (hb b h7)]; exact e1
      · rw [World.cell?_of_block (w := w) (hb b h7)]; exact e2

theorem In.mono {w : World} {S T : Nat → Prop} {L : Lv} {v : Value} (h : In w S L v) (hT : ∀ b, S b → T b) : In w T L v := In.carry (fun _ _ => rfl) hT L v h

theorem In.below {w w' : World} {B C : Nat} {L : Lv} {v : Value} (h : In w (· < B) L v) (hb : Below C w w') (hB : B ≤ C) : In w' (· < B) L v :=
  In.carry (fun b hlt => hb.block b (Nat.lt_of_lt_of_le hlt hB)) (fun _ h => h) L v h

theorem In.keep {w w' : World} {B : Nat} {S : Nat → Prop} {L : Lv} {v : Value} (h : In w (· < B) L v) (hk : Keep w w' S) (hB : B ≤ w.heap.size) (hS : ∀ b, S b → B ≤ b) : In w' (· < B) L v :=
  h.below (hk.below hB hS) (Nat.le_refl _)

theorem In.up {w : World} {B C : Nat} {L : Lv} {v : Value} (h : In w (· < B) L v) (hB : B ≤ C) : In w (· < C) L v := h.mono (fun _ hb => Nat.lt_of_lt_of_le hb hB)

/-- What is known of a level's value and its args. -/
structure Node (w : World) (S : Nat → Prop) (k n : Int) (args : List Lv) (a : Option Addr) (cap : Nat) : Prop where
  k0 : -9223372036854775808 ≤ k
  k1 : k ≤ 9223372036854775807
  n0 : -9223372036854775808 ≤ n
  n1 : n ≤ 9223372036854775807
  le : args.length ≤ cap
  max : cap ≤ 9223372036854775807
  all : args = [] ∨ ∃ b off, a = some ⟨b, off, none⟩ ∧ S b ∧ InAll w S b off args

theorem In.node {w : World} {S : Nat → Prop} {k n : Int} {args : List Lv} {v : Value} (h : In w S (.mk k n args) v) : ∃ a cap, v = .agg #[.int .i64 k, .int .i64 n, .slice a args.length cap] ∧ Node w S k n args a cap := by
  rw [in_mk] at h
  obtain ⟨a, cap, h1, ⟨h2, h2'⟩, ⟨h3, h3'⟩, h4, h5, h6⟩ := h
  exact ⟨a, cap, h1, h2, h2', h3, h3', h4, h5, h6⟩

theorem Node.is {w : World} {S : Nat → Prop} {k n : Int} {args : List Lv} {a : Option Addr} {cap : Nat} (h : Node w S k n args a cap) : In w S (.mk k n args) (.agg #[.int .i64 k, .int .i64 n, .slice a args.length cap]) := by
  rw [in_mk]
  exact ⟨a, cap, rfl, ⟨h.k0, h.k1⟩, ⟨h.n0, h.n1⟩, h.le, h.max, h.all⟩

theorem In.agg {w : World} {S : Nat → Prop} {k n k' n' : Int} {args : List Lv} {a : Option Addr} {len cap : Nat} (h : In w S (.mk k n args) (.agg #[.int .i64 k', .int .i64 n', .slice a len cap])) : k' = k ∧ n' = n ∧ len = args.length ∧ Node w S k n args a cap := by
  obtain ⟨a', cap', e, hN⟩ := h.node
  simp only [Value.agg.injEq, Array.mk.injEq, List.cons.injEq, Value.int.injEq, Value.slice.injEq, true_and, and_true] at e
  obtain ⟨rfl, rfl, rfl, rfl, rfl⟩ := e
  exact ⟨rfl, rfl, rfl, hN⟩

theorem InAll.get {w : World} {S : Nat → Prop} {b : Nat} {args : List Lv} : ∀ {off : Nat}, InAll w S b off args → ∀ i L, args[i]? = some L → ∃ c0 c1 c2, w.cell? ⟨b, off + i * 3, none⟩ = some c0 ∧ w.cell? ⟨b, off + i * 3 + 1, none⟩ = some c1 ∧ w.cell? ⟨b, off + i * 3 + 2, none⟩ = some c2 ∧ In w S L (.agg #[c0, c1, c2]) := by
  induction args with
  | nil => intro off _ i L h; simp at h
  | cons x r ih =>
    intro off h i L hi
    rw [inAll_cons] at h
    cases i with
    | zero => simp at hi; subst hi; exact h.1
    | succ i =>
      have := ih h.2 i L (by simpa using hi)
      rw [show off + (i + 1) * 3 = off + 3 + i * 3 by omega]
      exact this

theorem InAll.of_get {w : World} {S : Nat → Prop} {b : Nat} {args : List Lv} : ∀ {off : Nat}, (∀ i L, args[i]? = some L → ∃ c0 c1 c2, w.cell? ⟨b, off + i * 3, none⟩ = some c0 ∧ w.cell? ⟨b, off + i * 3 + 1, none⟩ = some c1 ∧ w.cell? ⟨b, off + i * 3 + 2, none⟩ = some c2 ∧ In w S L (.agg #[c0, c1, c2])) → InAll w S b off args := by
  induction args with
  | nil => intro off _; rw [InAll]; trivial
  | cons x r ih =>
    intro off h
    rw [inAll_cons]
    refine ⟨by simpa using h 0 x (by simp), ih fun i L hi => ?_⟩
    have := h (i + 1) L (by simpa using hi)
    rw [show off + (i + 1) * 3 = off + 3 + i * 3 by omega] at this
    exact this

/-- The i-th of the args: where it lies, and that it is a level. -/
theorem Node.get {w : World} {S : Nat → Prop} {k n : Int} {args : List Lv} {a : Option Addr} {cap : Nat} (h : Node w S k n args a cap) {i : Nat} {L : Lv} (hi : args[i]? = some L) :
    ∃ b off k' n' args' a' cap', a = some ⟨b, off, none⟩ ∧ S b ∧ L = .mk k' n' args' ∧ w.cell? ⟨b, off + i * 3, none⟩ = some (.int .i64 k') ∧ w.cell? ⟨b, off + i * 3 + 1, none⟩ = some (.int .i64 n') ∧
      w.cell? ⟨b, off + i * 3 + 2, none⟩ = some (.slice a' args'.length cap') ∧ Node w S k' n' args' a' cap' := by
  rcases h.all with h0 | ⟨b, off, ha, hS, hall⟩
  · subst h0; simp at hi
  · obtain ⟨c0, c1, c2, e0, e1, e2, hin⟩ := hall.get i L hi
    obtain ⟨k', n', args'⟩ := L
    obtain ⟨a', cap', e, hN⟩ := hin.node
    simp only [Value.agg.injEq, Array.mk.injEq, List.cons.injEq, and_true] at e
    obtain ⟨rfl, rfl, rfl⟩ := e
    exact ⟨b, off, k', n', args', a', cap', ha, hS, rfl, e0, e1, e2, hN⟩

theorem Node.carry {w w' : World} {S T : Nat → Prop} {k n : Int} {args : List Lv} {a : Option Addr} {cap : Nat} (h : Node w S k n args a cap) (hb : ∀ b, S b → w'.heap[b]? = w.heap[b]?) (hT : ∀ b, S b → T b) : Node w' T k n args a cap :=
  (In.carry hb hT _ _ h.is).agg.2.2.2

theorem Node.below {w w' : World} {B C : Nat} {k n : Int} {args : List Lv} {a : Option Addr} {cap : Nat} (h : Node w (· < B) k n args a cap) (hb : Below C w w') (hB : B ≤ C) : Node w' (· < B) k n args a cap :=
  h.carry (fun b hlt => hb.block b (Nat.lt_of_lt_of_le hlt hB)) (fun _ h => h)

theorem Node.keep {w w' : World} {B : Nat} {S : Nat → Prop} {k n : Int} {args : List Lv} {a : Option Addr} {cap : Nat} (h : Node w (· < B) k n args a cap) (hk : Keep w w' S) (hB : B ≤ w.heap.size) (hS : ∀ b, S b → B ≤ b) : Node w' (· < B) k n args a cap :=
  h.below (hk.below hB hS) (Nat.le_refl _)

end Go.Proofs.Ytemgmphddmlmlaa
