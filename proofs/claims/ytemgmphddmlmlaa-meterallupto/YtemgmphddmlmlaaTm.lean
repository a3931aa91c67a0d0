/- Terms as they lie in memory, and their parts in order. Of no program; no condition. -/
import Derived.Test.YtemgmphddmlmlaaSeq
namespace Go.Proofs.Ytemgmphddmlmlaa
open Go.RowKit

inductive Tr where
  | mk (k n : Int) (s : ByteArray) (ls : List Lv) (la : Option Addr) (lc : Nat) (a : Option Addr) (c : Nat) (b off : Nat) (args : List Tr)

/-- A term as it lies in memory, with its lists' headers, and where its Args lie. -/
theorem Tr.ind {P : Tr → Prop} (h : ∀ k n s ls la lc a c b off args, (∀ T ∈ args, P T) → P (.mk k n s ls la lc a c b off args)) : ∀ T, P T := fun T =>
  Tr.rec (motive_1 := P) (motive_2 := fun l => ∀ T ∈ l, P T) (fun k n s ls la lc a c b off args ih => h k n s ls la lc a c b off args ih) (fun _ hx => by cases hx)
    (fun _ _ h1 h2 x hx => by rcases List.mem_cons.1 hx with rfl | hx; exact h1; exact h2 x hx) T

def Tr.k : Tr → Int | .mk k _ _ _ _ _ _ _ _ _ _ => k

def Tr.n : Tr → Int | .mk _ n _ _ _ _ _ _ _ _ _ => n

def Tr.s : Tr → ByteArray | .mk _ _ s _ _ _ _ _ _ _ _ => s

def Tr.ls : Tr → List Lv | .mk _ _ _ ls _ _ _ _ _ _ _ => ls

def Tr.la : Tr → Option Addr | .mk _ _ _ _ la _ _ _ _ _ _ => la

def Tr.lc : Tr → Nat | .mk _ _ _ _ _ lc _ _ _ _ _ => lc

def Tr.a : Tr → Option Addr | .mk _ _ _ _ _ _ a _ _ _ _ => a

def Tr.c : Tr → Nat | .mk _ _ _ _ _ _ _ c _ _ _ => c

def Tr.b : Tr → Nat | .mk _ _ _ _ _ _ _ _ b _ _ => b

def Tr.off : Tr → Nat | .mk _ _ _ _ _ _ _ _ _ off _ => off

def Tr.args : Tr → List Tr | .mk _ _ _ _ _ _ _ _ _ _ args => args

theorem Tr.eta (T : Tr) : T = .mk T.k T.n T.s T.ls T.la T.lc T.a T.c T.b T.off T.args := by cases T; rfl

theorem Tr.ind' {P : Tr → Prop} (h : ∀ T : Tr, (∀ x ∈ T.args, P x) → P T) (T : Tr) : P T := by
  refine Tr.ind (P := P) ?_ T
  intro k n s ls la lc a c b off args ih
  exact h (.mk k n s ls la lc a c b off args) ih

def Tr.val (T : Tr) : Value := .agg #[.int .i64 T.k, .int .i64 T.n, .string T.s, .slice T.la T.ls.length T.lc, .slice T.a T.args.length T.c]

mutual

/-- How many parts it has. -/
def Tr.size : Tr → Nat
  | .mk _ _ _ _ _ _ _ _ _ _ args => Tr.sizes args + 1

def Tr.sizes : List Tr → Nat
  | [] => 0
  | T :: r => T.size + Tr.sizes r

end

theorem Tr.size_eq (T : Tr) : T.size = Tr.sizes T.args + 1 := by cases T; simp only [Tr.size, Tr.args]

theorem Tr.size_pos (T : Tr) : 1 ≤ T.size := by rw [Tr.size_eq]; omega

theorem Tr.sizes_append (a b : List Tr) : Tr.sizes (a ++ b) = Tr.sizes a + Tr.sizes b := by
  induction a with
  | nil => simp only [List.nil_append, Tr.sizes]; omega
  | cons x r ih => simp only [List.cons_append, Tr.sizes, ih]; omega

theorem Tr.sizes_take {args : List Tr} {i : Nat} {L : Tr} (h : args[i]? = some L) : Tr.sizes (args.take (i + 1)) = Tr.sizes (args.take i) + L.size := by
  have hi := (List.getElem?_eq_some_iff.1 h).1
  have e : args.take (i + 1) = args.take i ++ [L] := by
    rw [List.take_succ_eq_append_getElem hi, (List.getElem?_eq_some_iff.1 h).2]
  rw [e, Tr.sizes_append]; simp only [Tr.sizes]; omega

theorem Tr.sizes_take_le (args : List Tr) (i : Nat) : Tr.sizes (args.take i) ≤ Tr.sizes args := by
  have e : Tr.sizes args = Tr.sizes (args.take i) + Tr.sizes (args.drop i) := by rw [← Tr.sizes_append, List.take_append_drop]
  omega

theorem Tr.size_mem {args : List Tr} {L : Tr} (h : L ∈ args) : L.size ≤ Tr.sizes args := by
  induction args with
  | nil => cases h
  | cons x r ih =>
    simp only [Tr.sizes]
    rcases List.mem_cons.1 h with rfl | h
    · omega
    · have := ih h; omega

theorem Tr.sizes_len (l : List Tr) : l.length ≤ Tr.sizes l := by
  induction l with
  | nil => simp [Tr.sizes]
  | cons x r ih => have := x.size_pos; simp only [Tr.sizes, List.length_cons]; omega

/-- The five cells of a term at a place. -/
structure TCells (w : World) (b off : Nat) (T : Tr) : Prop where
  c0 : w.cell? ⟨b, off, none⟩ = some (.int .i64 T.k)
  c1 : w.cell? ⟨b, off + 1, none⟩ = some (.int .i64 T.n)
  c2 : w.cell? ⟨b, off + 2, none⟩ = some (.string T.s)
  c3 : w.cell? ⟨b, off + 3, none⟩ = some (.slice T.la T.ls.length T.lc)
  c4 : w.cell? ⟨b, off + 4, none⟩ = some (.slice T.a T.args.length T.c)

theorem TCells.carry {w w' : World} {b off : Nat} {T : Tr} (h : TCells w b off T) (hb : w'.heap[b]? = w.heap[b]?) : TCells w' b off T :=
  ⟨(World.cell?_of_block (w := w) hb).trans h.c0, (World.cell?_of_block (w := w) hb).trans h.c1, (World.cell?_of_block (w := w) hb).trans h.c2, (World.cell?_of_block (w := w) hb).trans h.c3, (World.cell?_of_block (w := w) hb).trans h.c4⟩

theorem TCells.lt {w : World} {b off : Nat} {T : Tr} (h : TCells w b off T) : b < w.heap.size := World.block_lt_of_cell? w _ h.c0

mutual

/-- What is behind a term's value lies in blocks of S. -/
def TIn (w : World) (S : Nat → Prop) : Tr → Prop
  | .mk k n _ ls la lc a c b off args => (-9223372036854775808 ≤ k ∧ k ≤ 9223372036854775807) ∧ (-9223372036854775808 ≤ n ∧ n ≤ 9223372036854775807) ∧ Node w S 0 0 ls la lc ∧ args.length ≤ c ∧ c ≤ maxLen ∧
      (args = [] ∨ (a = some ⟨b, off, none⟩ ∧ S b ∧ TAll w S b off args))

def TAll (w : World) (S : Nat → Prop) (b : Nat) : Nat → List Tr → Prop
  | _, [] => True
  | off, T :: r => (TCells w b off T ∧ TIn w S T) ∧ TAll w S b (off + 5) r

end

structure TNode (w : World) (S : Nat → Prop) (T : Tr) : Prop where
  k0 : -9223372036854775808 ≤ T.k
  k1 : T.k ≤ 9223372036854775807
  n0 : -9223372036854775808 ≤ T.n
  n1 : T.n ≤ 9223372036854775807
  lv : Node w S 0 0 T.ls T.la T.lc
  le : T.args.length ≤ T.c
  max : T.c ≤ 9223372036854775807
  all : T.args = [] ∨ (T.a = some ⟨T.b, T.off, none⟩ ∧ S T.b ∧ TAll w S T.b T.off T.args)

theorem tin_iff {w : World} {S : Nat → Prop} {T : Tr} : TIn w S T ↔ TNode w S T := by
  cases T
  rw [TIn]
  exact ⟨fun ⟨⟨h1, h2⟩, ⟨h3, h4⟩, h5, h6, h7, h8⟩ => ⟨h1, h2, h3, h4, h5, h6, h7, h8⟩, fun h => ⟨⟨h.k0, h.k1⟩, ⟨h.n0, h.n1⟩, h.lv, h.le, h.max, h.all⟩⟩

theorem tall_cons {w : World} {S : Nat → Prop} {b off : Nat} {T : Tr} {r : List Tr} : TAll w S b off (T :: r) ↔ (TCells w b off T ∧ TIn w S T) ∧ TAll w S b (off + 5) r := by rw [TAll]

theorem TAll.get {w : World} {S : Nat → Prop} {b : Nat} {args : List Tr} : ∀ {off : Nat}, TAll w S b off args → ∀ i L, args[i]? = some L → TCells w b (off + i * 5) L ∧ TIn w S L := by
  induction args with
  | nil => intro off _ i L h; simp at h
  | cons x r ih =>
    intro off h i L hi
    rw [tall_cons] at h
    cases i with
    | zero => simp at hi; subst hi; simpa using h.1
    | succ i =>
      have := ih h.2 i L (by simpa using hi)
      rw [show off + (i + 1) * 5 = off + 5 + i * 5 by omega]
      exact this

theorem TAll.of_get {w : World} {S : Nat → Prop} {b : Nat} {args : List Tr} : ∀ {off : Nat}, (∀ i L, args[i]? = some L → TCells w b (off + i * 5) L ∧ TIn w S L) → TAll w S b off args := by
  induction args with
  | nil => intro off _; rw [TAll]; trivial
  | cons x r ih =>
    intro off h
    rw [tall_cons]
    refine ⟨by simpa using h 0 x (by simp), ih fun i L hi => ?_⟩
    have := h (i + 1) L (by simpa using hi)
    rw [show off + (i + 1) * 5 = off + 5 + i * 5 by omega] at this
    exact this

/-- The i-th of the args: where it lies. -/
theorem TIn.get {w : World} {S : Nat → Prop} {T : Tr} (h : TIn w S T) {i : Nat} {L : Tr} (hi : T.args[i]? = some L) : T.a = some ⟨T.b, T.off, none⟩ ∧ S T.b ∧ TCells w T.b (T.off + i * 5) L ∧ TIn w S L := by
  rcases (tin_iff.1 h).all with h0 | ⟨ha, hS, hall⟩
  · rw [h0] at hi; simp at hi
  · exact ⟨ha, hS, hall.get i L hi⟩

/-- It stays where its blocks stay. -/
theorem TIn.carry {w w' : World} {S T : Nat → Prop} (hb : ∀ b, S b → w'.heap[b]? = w.heap[b]?) (hT : ∀ b, S b → T b) (t : Tr) : TIn w S t → TIn w' T t := by
  refine Tr.ind' (P := fun t => TIn w S t → TIn w' T t) ?_ t
  intro t ih h
  have hn := tin_iff.1 h
  refine tin_iff.2 ⟨hn.k0, hn.k1, hn.n0, hn.n1, hn.lv.carry hb hT, hn.le, hn.max, ?_⟩
  rcases hn.all with h0 | ⟨ha, hS, hall⟩
  · exact .inl h0
  · refine .inr ⟨ha, hT _ hS, TAll.of_get fun i L hi => ?_⟩
    have := hall.get i L hi
    exact ⟨this.1.carry (hb _ hS), ih L (List.mem_of_getElem? hi) this.2⟩

theorem TIn.mono {w : World} {S T : Nat → Prop} {t : Tr} (h : TIn w S t) (hT : ∀ b, S b → T b) : TIn w T t := TIn.carry (fun _ _ => rfl) hT t h

theorem TIn.below {w w' : World} {B C : Nat} {t : Tr} (h : TIn w (· < B) t) (hb : Below C w w') (hB : B ≤ C) : TIn w' (· < B) t :=
  TIn.carry (fun b hlt => hb.block b (Nat.lt_of_lt_of_le hlt hB)) (fun _ h => h) t h

theorem TIn.keep {w w' : World} {B : Nat} {S : Nat → Prop} {t : Tr} (h : TIn w (· < B) t) (hk : Keep w w' S) (hB : B ≤ w.heap.size) (hS : ∀ b, S b → B ≤ b) : TIn w' (· < B) t :=
  h.below (hk.below hB hS) (Nat.le_refl _)

theorem TIn.drew {w : World} {S : Nat → Prop} {t : Tr} (h : TIn w S t) : TIn w.drew S t := TIn.carry (w := w) (w' := w.drew) (S := S) (fun _ _ => rfl) (fun _ h => h) t h

/-- Does the i-th of the args stand below the binder? -/
def bnd (k : Int) (i : Nat) : Nat := if (k = 4 ∨ k = 5) ∧ i = 1 ∨ k = 6 ∧ i = 2 then 1 else 0

theorem bnd_le (k : Int) (i : Nat) : bnd k i ≤ 1 := by unfold bnd; split <;> omega

/-- A part: where it lies, how deep, below how many binders. -/
structure Pt where
  b : Nat
  off : Nat
  t : Tr
  d : Nat
  m : Nat

def Pt.val (p : Pt) : Value := .agg #[.pointer (some ⟨p.b, p.off, none⟩), .int .i64 (p.d : Int), .int .i64 (p.m : Int)]

/-- Its i-th arg. -/
def Pt.kid (p : Pt) (i : Nat) (T : Tr) : Pt := ⟨p.t.b, p.t.off + i * 5, T, p.d + 1, p.m + bnd p.t.k i⟩

mutual

def Tr.seq (b off d m : Nat) : Tr → List Pt
  | .mk k n s ls la lc a c b' off' args => ⟨b, off, .mk k n s ls la lc a c b' off' args, d, m⟩ :: Tr.seqs k b' off' (d + 1) m 0 args

def Tr.seqs (k : Int) (b off d m : Nat) : Nat → List Tr → List Pt
  | _, [] => []
  | i, T :: r => T.seq b (off + i * 5) d (m + bnd k i) ++ Tr.seqs k b off d m (i + 1) r

end

/-- All parts of a part. -/
def Pt.seq (p : Pt) : List Pt := p.t.seq p.b p.off p.d p.m

/-- All parts below, from the j-th arg on. -/
def Pt.from (p : Pt) (j : Nat) : List Pt := Tr.seqs p.t.k p.t.b p.t.off (p.d + 1) p.m j (p.t.args.drop j)

theorem Pt.seq_eq (p : Pt) : p.seq = p :: p.from 0 := by
  obtain ⟨b, off, t, d, m⟩ := p
  cases t
  simp only [Pt.seq, Tr.seq, Pt.from, List.drop_zero, Tr.k, Tr.b, Tr.off, Tr.args]

theorem Pt.from_lt (p : Pt) {j : Nat} {T : Tr} (h : p.t.args[j]? = some T) : p.from j = (p.kid j T).seq ++ p.from (j + 1) := by
  have hj := (List.getElem?_eq_some_iff.1 h).1
  unfold Pt.from
  rw [List.drop_eq_getElem_cons hj, (List.getElem?_eq_some_iff.1 h).2, Tr.seqs]
  rfl

theorem Pt.from_ge (p : Pt) {j : Nat} (h : p.t.args.length ≤ j) : p.from j = [] := by
  unfold Pt.from
  rw [List.drop_of_length_le h, Tr.seqs]

theorem Tr.seqs_len (k : Int) (b off d m : Nat) (l : List Tr) : (∀ T ∈ l, ∀ b off d m, (T.seq b off d m).length = T.size) → ∀ i, (Tr.seqs k b off d m i l).length = Tr.sizes l := by
  induction l with
  | nil => intro _ i; simp [Tr.seqs, Tr.sizes]
  | cons x r ih => intro h i; rw [Tr.seqs, List.length_append, h x (by simp), ih (fun T hT => h T (by simp [hT])), Tr.sizes]

theorem Tr.seq_len (T : Tr) : ∀ b off d m, (T.seq b off d m).length = T.size := by
  refine Tr.ind (P := fun T => ∀ b off d m, (T.seq b off d m).length = T.size) ?_ T
  intro k n s ls la lc a c b off args ih b' off' d m
  rw [Tr.seq, List.length_cons, Tr.seqs_len _ _ _ _ _ _ ih, Tr.size]

/-- Where an iterator is: the parts that are open, the last one first, and which of their args comes next. -/
abbrev Stk := List (Pt × Nat)

def Stk.rem (st : Stk) : List Pt := st.flatMap fun x => x.1.from x.2

/-- What comes behind a part p when st is open. -/
def push (p : Pt) (st : Stk) : Stk := if p.t.args = [] then st else (p, 0) :: st

theorem push_rem (p : Pt) (st : Stk) : p :: Stk.rem (push p st) = p.seq ++ Stk.rem st := by
  unfold push
  split
  · rename_i h; rw [p.seq_eq, p.from_ge (by simp [h])]; rfl
  · rw [p.seq_eq]; simp [Stk.rem]

/-- One of the open one's args is taken. -/
def took (p : Pt) (j : Nat) (st : Stk) : Stk := if j + 1 = p.t.args.length then st else (p, j + 1) :: st

theorem took_rem (p : Pt) (j : Nat) (st : Stk) {T : Tr} (h : p.t.args[j]? = some T) : Stk.rem ((p, j) :: st) = (p.kid j T).seq ++ Stk.rem (took p j st) := by
  unfold took
  split
  · rename_i e; simp only [Stk.rem, List.flatMap_cons]; rw [p.from_lt h, p.from_ge (j := j + 1) (by omega)]; simp
  · simp only [Stk.rem, List.flatMap_cons]; rw [p.from_lt h]; simp

theorem Pt.kid_t (p : Pt) (i : Nat) (T : Tr) : (p.kid i T).t = T := rfl

/-- The cells of what is open, the first one first. -/
def Stk.cells : Stk → List Value
  | [] => []
  | (p, j) :: r => Stk.cells r ++ [.pointer (some ⟨p.b, p.off, none⟩), .int .i64 (p.d : Int), .int .i64 (p.m : Int), .int .i64 (j : Int)]

theorem Stk.cells_len (st : Stk) : (Stk.cells st).length = st.length * 4 := by
  induction st with
  | nil => rfl
  | cons x r ih => obtain ⟨p, j⟩ := x; rw [Stk.cells, List.length_append, ih]; simp; omega

end Go.Proofs.Ytemgmphddmlmlaa
