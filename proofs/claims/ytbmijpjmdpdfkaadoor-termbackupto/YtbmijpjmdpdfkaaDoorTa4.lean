/- A tally's stack of lists that are being counted. Plain facts, of no program. -/
import Derived.Test.YtbmijpjmdpdfkaaDoorTa3
namespace Go.Proofs.YtbmijpjmdpdfkaaDoor
open Go.RowKit

/-- A list that is being counted. -/
structure Sp where
  ls : List Lv
  b : Nat
  off : Nat
  c : Nat
  i : Nat
  sz : Nat
def Sp.cells (s : Sp) : List Value := [.slice (some ⟨s.b, s.off, none⟩) s.ls.length s.c, .bool true, .int .i64 (s.i : Int), .int .i64 (s.sz : Int)]
/-- The stack's cells, the last one first in the list. -/
def spCells (bsz : Nat) : List Sp → List Value
  | [] => [.slice none 0 0, .bool false, .int .i64 0, .int .i64 (bsz : Int)]
  | s :: r => spCells bsz r ++ s.cells
theorem spCells_len (bsz : Nat) (st : List Sp) : (spCells bsz st).length = (st.length + 1) * 4 := by
  induction st with
  | nil => rfl
  | cons s r ih => simp [spCells, Sp.cells, ih]; omega

/-- The parts that lie below. -/
def Lv.belows : List Lv → Nat
  | [] => 0
  | .mk _ _ args :: r => Lv.sizes args + Lv.belows r
theorem Lv.belows_drop {l : List Lv} {i : Nat} {k n : Int} {args : List Lv} (h : l[i]? = some (.mk k n args)) : Lv.belows (l.drop i) = Lv.sizes args + Lv.belows (l.drop (i + 1)) := by
  have hi := (List.getElem?_eq_some_iff.1 h).1
  rw [List.drop_eq_getElem_cons hi, (List.getElem?_eq_some_iff.1 h).2, Lv.belows]
theorem Lv.sizes_belows (l : List Lv) : Lv.sizes l = l.length + Lv.belows l := by
  induction l with
  | nil => rfl
  | cons x r ih => obtain ⟨k, n, args⟩ := x; simp only [Lv.sizes, Lv.belows, Lv.size_mk, List.length_cons, ih]; omega

def Sp.left (s : Sp) : Nat := Lv.belows (s.ls.drop s.i)
def spLeft : List Sp → Nat
  | [] => 0
  | s :: r => s.left + spLeft r
def spSum : List Sp → Nat
  | [] => 0
  | s :: r => s.sz + spSum r
def spMeas : List Sp → Nat
  | [] => 0
  | s :: r => 1 + 2 * Lv.sizes (s.ls.drop s.i) + spMeas r

/-- The next one's size grows. -/
def spAdd (n : Nat) : Nat → List Sp → Nat × List Sp
  | bsz, [] => (bsz + n, [])
  | bsz, s :: r => (bsz, { s with sz := s.sz + n } :: r)

theorem spAdd_cells (n bsz : Nat) (st : List Sp) : ∃ xs x0 x1 x2 s, spCells bsz st = xs ++ [x0, x1, x2, .int .i64 (s : Int)] ∧ spCells (spAdd n bsz st).1 (spAdd n bsz st).2 = xs ++ [x0, x1, x2, .int .i64 ((s + n : Nat) : Int)] ∧ s ≤ bsz + spSum st := by
  cases st with
  | nil => exact ⟨[], _, _, _, bsz, rfl, rfl, by omega⟩
  | cons s r => exact ⟨spCells bsz r, _, _, _, s.sz, rfl, rfl, by simp only [spSum]; omega⟩
theorem spAdd_sum (n bsz : Nat) (st : List Sp) : (spAdd n bsz st).1 + spSum (spAdd n bsz st).2 = bsz + spSum st + n := by
  cases st with
  | nil => simp [spAdd, spSum]
  | cons s r => simp only [spAdd, spSum]; omega
theorem spAdd_left (n bsz : Nat) (st : List Sp) : spLeft (spAdd n bsz st).2 = spLeft st := by
  cases st with
  | nil => rfl
  | cons s r => rfl
theorem spAdd_meas (n bsz : Nat) (st : List Sp) : spMeas (spAdd n bsz st).2 = spMeas st := by
  cases st with
  | nil => rfl
  | cons s r => rfl
theorem spAdd_len (n bsz : Nat) (st : List Sp) : (spAdd n bsz st).2.length = st.length := by
  cases st with
  | nil => rfl
  | cons s r => rfl

/-- A list of the stack lies in memory. -/
structure SpOk (w : World) (B : Nat) (s : Sp) : Prop where
  lt : s.b < B
  all : InAll w (· < B) s.b s.off s.ls
  le : s.i ≤ s.ls.length
  pos : 0 < s.ls.length
  cap : s.ls.length ≤ s.c
  max : s.c ≤ 9223372036854775807
theorem SpOk.same {w : World} {B : Nat} {s : Sp} (h : SpOk w B s) {i sz : Nat} (hi : i ≤ s.ls.length) : SpOk w B { s with i := i, sz := sz } := ⟨h.lt, h.all, hi, h.pos, h.cap, h.max⟩
theorem spAdd_ok {w : World} {B n bsz : Nat} {st : List Sp} (h : ∀ s ∈ st, SpOk w B s) : ∀ s ∈ (spAdd n bsz st).2, SpOk w B s := by
  cases st with
  | nil => exact h
  | cons x r =>
    intro s hs
    rcases List.mem_cons.1 hs with rfl | hs
    · exact (h x (List.mem_cons_self ..)).same (h x (List.mem_cons_self ..)).le
    · exact h s (List.mem_cons_of_mem _ hs)

/-- The tally's state. -/
structure TS (w0 wr : World) (B tg : Nat) (v0 : Value) (N M bsz met : Nat) (st : List Sp) (v : Value) : Prop where
  blk : Blk wr tg 105 [.slice none 0 0, .int .i64 (met : Int), v, .map none]
  row : wr.ownsRow B 131 4 v (st.length + 1) (spCells bsz st)
  own : v.ownBlock = v0.ownBlock ∨ ∃ k, v.ownBlock = some k ∧ w0.heap.size ≤ k
  keep : Keep w0 wr (fun k => k = tg ∨ v0.ownBlock = some k)
  spans : ∀ s ∈ st, SpOk w0 B s
  tot : bsz + spSum st + spLeft st = N
  met : met + spLeft st = M

theorem Keep.own {w0 wr w' : World} {tg : Nat} {v0 v : Value} (hk : Keep w0 wr (fun k => k = tg ∨ v0.ownBlock = some k)) (ho : v.ownBlock = v0.ownBlock ∨ ∃ k, v.ownBlock = some k ∧ w0.heap.size ≤ k) (h : Keep wr w' (fun k => k = tg ∨ v.ownBlock = some k)) : Keep w0 w' (fun k => k = tg ∨ v0.ownBlock = some k) :=
  hk.trans h (fun k hk' e => by
    rcases e with e | e
    · exact .inl e
    · rcases ho with h1 | ⟨j, h1, h2⟩
      · exact .inr (h1 ▸ e)
      · rw [h1] at e; cases e; omega)
theorem own_trans {v0 v v' : Value} {n m : Nat} (hn : n ≤ m) (h1 : v.ownBlock = v0.ownBlock ∨ ∃ k, v.ownBlock = some k ∧ n ≤ k) (h2 : v'.ownBlock = v.ownBlock ∨ ∃ k, v'.ownBlock = some k ∧ m ≤ k) : v'.ownBlock = v0.ownBlock ∨ ∃ k, v'.ownBlock = some k ∧ n ≤ k := by
  rcases h2 with h | ⟨k, h, hk⟩
  · rw [h]; exact h1
  · exact .inr ⟨k, h, by omega⟩
end Go.Proofs.YtbmijpjmdpdfkaaDoor
