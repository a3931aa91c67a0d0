/- What is known of each operation of the document's Places. No condition. -/
import Derived.Test.YtogfmpjgmabomaaDoorPlcF
namespace Go.Proofs.YtogfmpjgmabomaaDoor
open Go.RowKit

def PcF (B R go N capo i : Nat) (pa : Option Addr) (pm pc : Nat) (ps : List Int) (k : Nat) (nx : List (List Int)) (no : Option Addr) (ncap : Nat) (xs : List Value) (j : Nat) (v : Value) (w : World) : Prop :=
  match j with
  | 0 => v = .slice no nx.length ncap ∧ w.ownsRow B 27 1 (.slice no nx.length ncap) nx.length xs
  | 1 => ∃ g, v = .slice (some ⟨g, 0, none⟩) 0 0 ∧ R ≤ g ∧ w.heap[g]? = some (.cells #[] 3 (0, 0))
  | 2 => v = .slice (some ⟨go, 0, none⟩) N capo
  | 3 => v = .int .i64 (i : Int)
  | 4 => v = .pointer (some ⟨go, i, none⟩)
  | 5 => v = .slice pa pm pc
  | 6 => w.ownsRow R 3 1 v ps.length (nums ps)
  | 7 => ∃ g, v = .slice (some ⟨g, 0, none⟩) 3 3 ∧ Blk w g 3 [.int .i64 0, .int .i64 1, .int .i64 1000]
  | 8 => v = .int .i64 (k : Int)
  | 9 => ∃ g, v = .pointer (some ⟨g, k, none⟩) ∧ Blk w g 3 [.int .i64 0, .int .i64 1, .int .i64 1000]
  | 10 => v = .int .i64 (q3 k)
  | 11 => ∃ g, v = .slice (some ⟨g, 0, none⟩) 1 1 ∧ Blk w g 3 [.int .i64 (q3 k)]
  | 12 => w.ownsRow R 3 1 v (ps ++ [q3 k]).length (nums (ps ++ [q3 k]))
  | 13 => ∃ g r, v = .slice (some ⟨g, 0, none⟩) 1 1 ∧ Blk w g 27 [r] ∧ w.ownsRow R 3 1 r (ps ++ [q3 k]).length (nums (ps ++ [q3 k]))
  | 14 => ∃ r, w.ownsRow B 27 1 v (nx.length + 1) (xs ++ [r]) ∧ w.ownsRow R 3 1 r (ps ++ [q3 k]).length (nums (ps ++ [q3 k])) ∧ (v.ownBlock = (Value.slice no nx.length ncap).ownBlock ∨ ∃ b, v.ownBlock = some b ∧ R ≤ b)
  | 15 => ∃ r, w.ownsRow B 27 1 v (nx.length + 1) (xs ++ [r]) ∧ w.ownsRow R 3 1 r (ps ++ [q3 k]).length (nums (ps ++ [q3 k])) ∧ (v.ownBlock = (Value.slice no nx.length ncap).ownBlock ∨ ∃ b, v.ownBlock = some b ∧ R ≤ b)
  | _ => True
def PcD (i : Nat) : List Nat := ([[], [], [], [], [2, 3], [4], [1, 5], [], [], [7, 8], [9], [10], [6, 11], [12], [0, 13], [14]])[i]?.getD []
def PcL (i : Nat) : List Nat := ([[1, 2, 3, 4, 5, 6, 7, 8, 9, 10, 11, 12, 13], [0, 2, 3, 4, 5, 7, 8, 9, 10, 11], [0, 1, 3, 7, 8, 9, 10, 11], [0, 1, 2, 7, 8, 9, 10, 11], [0, 1, 7, 8, 9, 10, 11], [0, 1, 7, 8, 9, 10, 11], [0, 7, 8, 9, 10, 11], [0, 1, 2, 3, 4, 5, 6, 8], [0, 1, 2, 3, 4, 5, 6, 7], [0, 1, 2, 3, 4, 5, 6], [0, 1, 2, 3, 4, 5, 6], [0, 1, 2, 3, 4, 5, 6], [0], [0], [], []] : List (List Nat))[i]?.getD []
def PcW (i : Nat) : List Nat := if i = 0 then [15] else []
theorem PcF.on (B R go N capo i : Nat) (pa : Option Addr) (pm pc : Nat) (ps : List Int) (k : Nat) (nx : List (List Int)) (no : Option Addr) (ncap : Nat) (xs : List Value) (j : Nat) (v : Value) (w w' : World) (hb : Below w.heap.size w w') (h : PcF B R go N capo i pa pm pc ps k nx no ncap xs j v w) : PcF B R go N capo i pa pm pc ps k nx no ncap xs j v w' := by
  have b : ∀ {g t l}, Blk w g t l → Blk w' g t l := fun h => h.below hb h.lt
  have c : ∀ {C e s u n ys}, w.ownsRow C e s u n ys → w'.ownsRow C e s u n ys := fun h => owns_below h hb
  match j, h with
  | 0, ⟨e, h⟩ => exact ⟨e, c h⟩
  | 1, ⟨g, e, hR, h⟩ => exact ⟨g, e, hR, (hb.block g (Array.getElem?_eq_some_iff.1 h).1).trans h⟩
  | 2, h => exact h
  | 3, h => exact h
  | 4, h => exact h
  | 5, h => exact h
  | 6, h => exact c (e := 3) h
  | 7, ⟨g, e, h⟩ => exact ⟨g, e, b h⟩
  | 8, h => exact h
  | 9, ⟨g, e, h⟩ => exact ⟨g, e, b h⟩
  | 10, h => exact h
  | 11, ⟨g, e, h⟩ => exact ⟨g, e, b h⟩
  | 12, h => exact c (e := 3) h
  | 13, ⟨g, r, e, h, h2⟩ => exact ⟨g, r, e, b h, c h2⟩
  | 14, ⟨r, h1, h2, h3⟩ => exact ⟨r, c h1, c h2, h3⟩
  | 15, ⟨r, h1, h2, h3⟩ => exact ⟨r, c h1, c h2, h3⟩
  | (n + 16), _ => exact trivial
theorem PcF.at6 (B R go N capo i : Nat) (pa : Option Addr) (pm pc : Nat) (ps : List Int) (k : Nat) (nx : List (List Int)) (no : Option Addr) (ncap : Nat) (xs : List Value) (j : Nat) (hj : j ∈ PcL 6) (v : Value) (w w' : World) {g : Nat} (hg : w.heap[g]? = some (.cells #[] 3 (0, 0))) (hw : w.grownBy w' (some g)) (h : PcF B R go N capo i pa pm pc ps k nx no ncap xs j v w) : PcF B R go N capo i pa pm pc ps k nx no ncap xs j v w' := by
  have b : ∀ {g' t x r}, Blk w g' t (x :: r) → Blk w' g' t (x :: r) := fun {g' t x r} h => h.carry (hw.block g' h.lt (fun e => by
    simp at e; subst e; unfold Blk at h; rw [hg] at h; simp at h))
  match j, hj, h with
  | 0, _, ⟨e, h⟩ => exact ⟨e, owns_any h (fun b cur hb _ => hw.block b (Array.getElem?_eq_some_iff.1 hb).1 (fun e => by simp at e; subst e; rw [hg] at hb; simp at hb))⟩
  | 7, _, ⟨g, e, h⟩ => exact ⟨g, e, b h⟩
  | 8, _, h => exact h
  | 9, _, ⟨g, e, h⟩ => exact ⟨g, e, b h⟩
  | 10, _, h => exact h
  | 11, _, ⟨g, e, h⟩ => exact ⟨g, e, b h⟩
  | 1, hj, _ => simp [PcL] at hj
  | 2, hj, _ => simp [PcL] at hj
  | 3, hj, _ => simp [PcL] at hj
  | 4, hj, _ => simp [PcL] at hj
  | 5, hj, _ => simp [PcL] at hj
  | 6, hj, _ => simp [PcL] at hj
  | 12, hj, _ => simp [PcL] at hj
  | 13, hj, _ => simp [PcL] at hj
  | 14, hj, _ => simp [PcL] at hj
  | 15, hj, _ => simp [PcL] at hj
  | (n + 16), _, _ => exact trivial
theorem PcF.at12 (B R go N capo i : Nat) (pa : Option Addr) (pm pc : Nat) (ps : List Int) (k : Nat) (nx : List (List Int)) (no : Option Addr) (ncap : Nat) (xs : List Value) (j : Nat) (hj : j ∈ PcL 12) (v : Value) (w w' : World) {own : Option Nat} (hg : ∀ b, own = some b → ∃ cur, w.heap[b]? = some (.cells cur 3 (0, 0))) (hw : w.grownBy w' own) (h : PcF B R go N capo i pa pm pc ps k nx no ncap xs j v w) : PcF B R go N capo i pa pm pc ps k nx no ncap xs j v w' := by
  match j, hj, h with
  | 0, _, ⟨e, h⟩ => exact ⟨e, owns_any h (fun b cur hb _ => hw.block b (Array.getElem?_eq_some_iff.1 hb).1 (fun e => by obtain ⟨c, hc⟩ := hg b e.symm; rw [hb] at hc; simp at hc))⟩
  | 1, hj, _ => simp [PcL] at hj
  | 2, hj, _ => simp [PcL] at hj
  | 3, hj, _ => simp [PcL] at hj
  | 4, hj, _ => simp [PcL] at hj
  | 5, hj, _ => simp [PcL] at hj
  | 6, hj, _ => simp [PcL] at hj
  | 7, hj, _ => simp [PcL] at hj
  | 8, hj, _ => simp [PcL] at hj
  | 9, hj, _ => simp [PcL] at hj
  | 10, hj, _ => simp [PcL] at hj
  | 11, hj, _ => simp [PcL] at hj
  | 12, hj, _ => simp [PcL] at hj
  | 13, hj, _ => simp [PcL] at hj
  | 14, hj, _ => simp [PcL] at hj
  | 15, hj, _ => simp [PcL] at hj
  | (n + 16), _, _ => exact trivial
end Go.Proofs.YtogfmpjgmabomaaDoor
